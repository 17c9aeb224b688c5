/- Ops of two numbers: that impl.Binary and spec.Binary both answer the plain function of Bin. -/
import Derived.Test.YtpcnnagcpckdlaaBin
namespace Go.Proofs.Ytpcnnagcpckdlaa
open Go.RowKit

theorem zeroBin (w : World) : (zeroValue 44).run Try.prog w = .ok (.agg #[.nilFunc, .int .i64 0]) w := by kernel_rfl

/-- the block of the table, behind the answer's own -/
theorem heap_two (w : World) (A B : Obj) : ((w.alloc A).alloc B).heap[w.heap.size + 1]? = some B := by
  have := (MapKept.heap_alloc (w.alloc A) B).1
  simpa using this

theorem below3 (w : World) (A B C : Obj) : Below w.heap.size w (((w.alloc A).alloc B).alloc C) :=
  (((Below.refl _ _).alloc (Nat.le_refl _) _).alloc (by simp) _).alloc (by simp; omega) _

set_option maxHeartbeats 400000 in
theorem implFound (op a b r bz : Int) (F i : Nat) (w : World) (hfind : Instr.findNow (.int .i64) (.int .i64 op) binEs.toList 0 = some (some (i, .agg #[.func (Fn.func F) #[] #[], .int .i64 bz])))
    (hb : ¬ b = 0 ∨ bz = 0) (eF : ∀ args w, (callFunc F args).run Try.prog w = .ok (.enter F args) w) (hF : ∀ w, Calls Try.prog F #[.int .i64 a, .int .i64 b] w fun e w' => e = .returned (.int .i64 r) ∧ w' = w) :
    Calls Try.prog 9 #[.int .i64 op, .int .i64 a, .int .i64 b] w fun e w' => e = .returned (.agg #[.int .i64 r, .int .i64 0]) ∧ Below w.heap.size w w' := by
  have HF : Hid (∀ w, Calls Try.prog F #[.int .i64 a, .int .i64 b] w fun e w' => e = .returned (.int .i64 r) ∧ w' = w) := hF
  have Hfind : Hid (Instr.findNow (.int .i64) (.int .i64 op) binEs.toList 0 = some (some (i, .agg #[.func (Fn.func F) #[] #[], .int .i64 bz]))) := hfind
  clear hF hfind
  by_cases hb0 : b = 0
  · obtain rfl : bz = 0 := by rcases hb with h | h <;> first | exact absurd hb0 h | exact h
    subst hb0
    clear hb
    go_enter Try.func9, Try.ntmps9
    go_wp2_with fail
    refine (binOps _).mono ?_
    rintro e w1 ⟨rfl, rfl⟩
    have hl := fun A => run_look (P := Try.prog) 46 2 44 Try.underlying46 Try.underlying2 ((w.alloc A).alloc (.map binEs 14)) (w.heap.size + 1) binEs 14 op i _ (heap_two w A _) Hfind.out
    go_wp2_with fail
    refine (HF.out _).mono ?_
    rintro e w2 ⟨rfl, h⟩
    subst w2
    go_wp2_with fail
    exact bodyPost_ret (v := .agg #[.int .i64 r, .int .i64 0]) (by simp [results, Try.results9, go_sem]) rfl ⟨rfl, below3 w _ _ _⟩
  · clear hb
    go_enter Try.func9, Try.ntmps9
    go_wp2_with fail
    refine (binOps _).mono ?_
    rintro e w1 ⟨rfl, rfl⟩
    have hl := fun A => run_look (P := Try.prog) 46 2 44 Try.underlying46 Try.underlying2 ((w.alloc A).alloc (.map binEs 14)) (w.heap.size + 1) binEs 14 op i _ (heap_two w A _) Hfind.out
    go_wp2_with fail
    refine (HF.out _).mono ?_
    rintro e w2 ⟨rfl, h⟩
    subst w2
    go_wp2_with fail
    exact bodyPost_ret (v := .agg #[.int .i64 r, .int .i64 0]) (by simp [results, Try.results9, go_sem]) rfl ⟨rfl, below3 w _ _ _⟩

set_option maxHeartbeats 400000 in
theorem implTrap (op a : Int) (F i : Nat) (w : World) (hfind : Instr.findNow (.int .i64) (.int .i64 op) binEs.toList 0 = some (some (i, .agg #[.func (Fn.func F) #[] #[], .int .i64 11]))) :
    Calls Try.prog 9 #[.int .i64 op, .int .i64 a, .int .i64 0] w fun e w' => e = .returned (.agg #[.int .i64 0, .int .i64 11]) ∧ Below w.heap.size w w' := by
  have Hfind : Hid (Instr.findNow (.int .i64) (.int .i64 op) binEs.toList 0 = some (some (i, .agg #[.func (Fn.func F) #[] #[], .int .i64 11]))) := hfind
  clear hfind
  go_enter Try.func9, Try.ntmps9
  go_wp2_with fail
  refine (binOps _).mono ?_
  rintro e w1 ⟨rfl, rfl⟩
  have hl := fun A => run_look (P := Try.prog) 46 2 44 Try.underlying46 Try.underlying2 ((w.alloc A).alloc (.map binEs 14)) (w.heap.size + 1) binEs 14 op i _ (heap_two w A _) Hfind.out
  go_wp2_with fail
  exact bodyPost_ret (v := .agg #[.int .i64 0, .int .i64 11]) (by simp [results, Try.results9, go_sem]) rfl ⟨rfl, below3 w _ _ _⟩

set_option maxHeartbeats 400000 in
theorem implNone (op a b : Int) (w : World) (hfind : Instr.findNow (.int .i64) (.int .i64 op) binEs.toList 0 = some none) :
    Calls Try.prog 9 #[.int .i64 op, .int .i64 a, .int .i64 b] w fun e w' => e = .returned (.agg #[.int .i64 0, .int .i64 0]) ∧ Below w.heap.size w w' := by
  have Hfind : Hid (Instr.findNow (.int .i64) (.int .i64 op) binEs.toList 0 = some none) := hfind
  clear hfind
  go_enter Try.func9, Try.ntmps9
  go_wp2_with fail
  refine (binOps _).mono ?_
  rintro e w1 ⟨rfl, rfl⟩
  have hl := fun A => run_look_none (P := Try.prog) 46 2 44 Try.underlying46 Try.underlying2 ((w.alloc A).alloc (.map binEs 14)) (w.heap.size + 1) binEs 14 op _ (zeroBin _) (heap_two w A _) Hfind.out
  go_wp2_with fail
  exact bodyPost_ret (v := .agg #[.int .i64 0, .int .i64 0]) (by simp [results, Try.results9, go_sem]) rfl ⟨rfl, below3 w _ _ _⟩

theorem op_cases (op : Int) : (op < 10 ∨ 23 < op) ∨ op = 10 ∨ op = 11 ∨ op = 12 ∨ op = 13 ∨ op = 14 ∨ op = 15 ∨ op = 16 ∨ op = 17 ∨ op = 18 ∨ op = 19 ∨ op = 20 ∨ op = 21 ∨ op = 22 ∨ op = 23 := by omega

theorem binEs_none (op : Int) (h : op < 10 ∨ 23 < op) : Instr.findNow (.int .i64) (.int .i64 op) binEs.toList 0 = some none := by
  apply find_none
  · intro e he
    simp only [binEs, List.mem_cons, List.not_mem_nil, or_false] at he
    rcases he with rfl | rfl | rfl | rfl | rfl | rfl | rfl | rfl | rfl | rfl | rfl | rfl | rfl | rfl <;> exact ⟨_, rfl⟩
  · intro e he
    simp only [binEs, List.mem_cons, List.not_mem_nil, or_false] at he
    rcases he with rfl | rfl | rfl | rfl | rfl | rfl | rfl | rfl | rfl | rfl | rfl | rfl | rfl | rfl <;> (simp; omega)

/-- impl.Binary -/
theorem implBinary (op a b : Int) (w : World) :
    Calls Try.prog 9 #[.int .i64 op, .int .i64 a, .int .i64 b] w fun e w' => e = .returned (.agg #[.int .i64 (binN op a b), .int .i64 (binT op b)]) ∧ Below w.heap.size w w' := by
  rcases op_cases op with h | rfl | rfl | rfl | rfl | rfl | rfl | rfl | rfl | rfl | rfl | rfl | rfl | rfl | rfl
  · have h1 : binN op a b = 0 := binN_out a b h
    have h2 : binT op b = 0 := by unfold binT; rw [if_neg (by omega)]
    rw [h1, h2]
    exact implNone op a b w (binEs_none op h)
  · have h2 : binT 10 b = 0 := by unfold binT; rw [if_neg (by omega)]
    rw [h2]
    exact implFound 10 a b _ _ _ _ w rfl (.inr rfl) Try.call26 (bin10 a b)
  · have h2 : binT 11 b = 0 := by unfold binT; rw [if_neg (by omega)]
    rw [h2]
    exact implFound 11 a b _ _ _ _ w rfl (.inr rfl) Try.call27 (bin11 a b)
  · have h2 : binT 12 b = 0 := by unfold binT; rw [if_neg (by omega)]
    rw [h2]
    exact implFound 12 a b _ _ _ _ w rfl (.inr rfl) Try.call28 (bin12 a b)
  · by_cases hb : b = 0
    · subst hb
      rw [binN_13z]
      exact implTrap 13 a _ _ w rfl
    · have h2 : binT 13 b = 0 := by unfold binT; rw [if_neg (by omega)]
      rw [h2]
      exact implFound 13 a b _ _ _ _ w rfl (.inl hb) Try.call29 (bin13 a b hb)
  · by_cases hb : b = 0
    · subst hb
      rw [binN_14z]
      exact implTrap 14 a _ _ w rfl
    · have h2 : binT 14 b = 0 := by unfold binT; rw [if_neg (by omega)]
      rw [h2]
      exact implFound 14 a b _ _ _ _ w rfl (.inl hb) Try.call30 (bin14 a b hb)
  · have h2 : binT 15 b = 0 := by unfold binT; rw [if_neg (by omega)]
    rw [h2]
    exact implFound 15 a b _ _ _ _ w rfl (.inr rfl) Try.call31 (bin15 a b)
  · have h2 : binT 16 b = 0 := by unfold binT; rw [if_neg (by omega)]
    rw [h2]
    exact implFound 16 a b _ _ _ _ w rfl (.inr rfl) Try.call32 (bin16 a b)
  · have h2 : binT 17 b = 0 := by unfold binT; rw [if_neg (by omega)]
    rw [h2]
    exact implFound 17 a b _ _ _ _ w rfl (.inr rfl) Try.call33 (bin17 a b)
  · have h2 : binT 18 b = 0 := by unfold binT; rw [if_neg (by omega)]
    rw [h2]
    exact implFound 18 a b _ _ _ _ w rfl (.inr rfl) Try.call34 (bin18 a b)
  · have h2 : binT 19 b = 0 := by unfold binT; rw [if_neg (by omega)]
    rw [h2]
    exact implFound 19 a b _ _ _ _ w rfl (.inr rfl) Try.call35 (bin19 a b)
  · have h2 : binT 20 b = 0 := by unfold binT; rw [if_neg (by omega)]
    rw [h2]
    exact implFound 20 a b _ _ _ _ w rfl (.inr rfl) Try.call36 (bin20 a b)
  · have h2 : binT 21 b = 0 := by unfold binT; rw [if_neg (by omega)]
    rw [h2]
    exact implFound 21 a b _ _ _ _ w rfl (.inr rfl) Try.call37 (bin21 a b)
  · have h2 : binT 22 b = 0 := by unfold binT; rw [if_neg (by omega)]
    rw [h2]
    exact implFound 22 a b _ _ _ _ w rfl (.inr rfl) Try.call39 (bin22 a b)
  · have h2 : binT 23 b = 0 := by unfold binT; rw [if_neg (by omega)]
    rw [h2]
    exact implFound 23 a b _ _ _ _ w rfl (.inr rfl) Try.call40 (bin23 a b)

end Go.Proofs.Ytpcnnagcpckdlaa
