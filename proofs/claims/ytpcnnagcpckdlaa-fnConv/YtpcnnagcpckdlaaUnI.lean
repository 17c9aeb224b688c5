/- Ops of one number: that impl.Unary and spec.Unary both answer one plain function. -/
import Derived.Test.YtpcnnagcpckdlaaUn
namespace Go.Proofs.Ytpcnnagcpckdlaa
open Go.RowKit

/-- the number that both answer -/
def unN (op a : Int) : Int :=
  if op = 24 then wrap64 (-a) else
  if op = 25 then bits .xor .i64 (-1) a else
  if op = 26 then wrap64 (IntKind.i8.wrap a) else
  if op = 27 then wrap64 (IntKind.i16.wrap a) else
  if op = 28 then wrap64 (wrap32 a) else
  if op = 29 then a % 4294967296 else
  0
theorem unN_24 (a : Int) : unN 24 a = wrap64 (-a) := rfl
theorem unN_25 (a : Int) : unN 25 a = bits .xor .i64 (-1) a := rfl
theorem unN_26 (a : Int) : unN 26 a = wrap64 (IntKind.i8.wrap a) := rfl
theorem unN_27 (a : Int) : unN 27 a = wrap64 (IntKind.i16.wrap a) := rfl
theorem unN_28 (a : Int) : unN 28 a = wrap64 (wrap32 a) := rfl
theorem unN_29 (a : Int) : unN 29 a = a % 4294967296 := rfl
theorem unN_out {op : Int} (a : Int) (h : op < 24 ∨ 29 < op) : unN op a = 0 := by
  unfold unN
  rw [if_neg (show ¬ op = 24 by omega)]
  rw [if_neg (show ¬ op = 25 by omega)]
  rw [if_neg (show ¬ op = 26 by omega)]
  rw [if_neg (show ¬ op = 27 by omega)]
  rw [if_neg (show ¬ op = 28 by omega)]
  rw [if_neg (show ¬ op = 29 by omega)]

theorem un24 (a : Int) (w : World) :
    Calls Try.prog 41 #[.int .i64 a] w fun e w' => e = .returned (.int .i64 (unN 24 a)) ∧ w' = w := by
  rw [unN_24]
  go_enter Try.func41, Try.ntmps41
  go_wp2
  go_ret
  exact ⟨rfl, rfl⟩

theorem un25 (a : Int) (w : World) :
    Calls Try.prog 42 #[.int .i64 a] w fun e w' => e = .returned (.int .i64 (unN 25 a)) ∧ w' = w := by
  rw [unN_25]
  go_enter Try.func42, Try.ntmps42
  go_wp2
  go_ret
  exact ⟨rfl, rfl⟩

theorem un26 (a : Int) (w : World) :
    Calls Try.prog 44 #[.int .i64 a] w fun e w' => e = .returned (.int .i64 (unN 26 a)) ∧ w' = w := by
  rw [unN_26]
  go_enter Try.func44, Try.ntmps44
  go_wp2
  go_ret
  exact ⟨rfl, rfl⟩

theorem un27 (a : Int) (w : World) :
    Calls Try.prog 45 #[.int .i64 a] w fun e w' => e = .returned (.int .i64 (unN 27 a)) ∧ w' = w := by
  rw [unN_27]
  go_enter Try.func45, Try.ntmps45
  go_wp2
  go_ret
  exact ⟨rfl, rfl⟩

theorem un28 (a : Int) (w : World) :
    Calls Try.prog 46 #[.int .i64 a] w fun e w' => e = .returned (.int .i64 (unN 28 a)) ∧ w' = w := by
  rw [unN_28]
  go_enter Try.func46, Try.ntmps46
  go_wp2
  go_ret
  exact ⟨rfl, rfl⟩

theorem un29 (a : Int) (w : World) :
    Calls Try.prog 47 #[.int .i64 a] w fun e w' => e = .returned (.int .i64 (unN 29 a)) ∧ w' = w := by
  rw [unN_29]
  go_enter Try.func47, Try.ntmps47
  go_wp2
  go_ret
  exact ⟨rfl, rfl⟩

theorem zeroUn (w : World) : (zeroValue 50).run Try.prog w = .ok (.agg #[.nilFunc]) w := by kernel_rfl

/-- the two cells of the answer, behind a call that lays blocks alone -/
theorem answer_cells {w w1 : World} {n t : Int} {T : TypeId} (hb : Below (w.alloc (.cells #[.int .i64 n, .int .i64 t] T)).heap.size (w.alloc (.cells #[.int .i64 n, .int .i64 t] T)) w1) :
    (w1.cell? ⟨w.heap.size, 0, none⟩ = some (.int .i64 n) ∧ w1.cell? ⟨w.heap.size, 1, none⟩ = some (.int .i64 t)) ∧ (w1.frozen? ⟨w.heap.size, 0, none⟩ = false ∧ w1.frozen? ⟨w.heap.size, 1, none⟩ = false) ∧ w.heap.size < w1.heap.size := by
  refine ⟨⟨?_, ?_⟩, ⟨?_, ?_⟩, ?_⟩
  · rw [hb.cell (by simp)]; simp
  · rw [hb.cell (by simp)]; simp
  · rw [hb.frozen (by simp)]; simp
  · rw [hb.frozen (by simp)]; simp
  · have := hb.size; simp at this; omega

set_option maxHeartbeats 400000 in
theorem implUFound (op a r : Int) (F i : Nat) (w : World) (hfind : Instr.findNow (.int .i64) (.int .i64 op) (unEs 4).toList 0 = some (some (i, .agg #[.func (Fn.func F) #[] #[]])))
    (eF : ∀ args w, (callFunc F args).run Try.prog w = .ok (.enter F args) w) (hF : ∀ w, Calls Try.prog F #[.int .i64 a] w fun e w' => e = .returned (.int .i64 r) ∧ w' = w) :
    Calls Try.prog 13 #[.int .i64 op, .int .i64 a] w fun e w' => e = .returned (.agg #[.int .i64 r, .int .i64 0]) ∧ Below w.heap.size w w' := by
  have HF : Hid (∀ w, Calls Try.prog F #[.int .i64 a] w fun e w' => e = .returned (.int .i64 r) ∧ w' = w) := hF
  have Hfind : Hid (Instr.findNow (.int .i64) (.int .i64 op) (unEs 4).toList 0 = some (some (i, .agg #[.func (Fn.func F) #[] #[]]))) := hfind
  clear hF hfind
  go_enter Try.func13, Try.ntmps13
  go_wp2_with fail
  refine (unOps _).mono ?_
  rintro e w1 ⟨rfl, hb1, hm1, hz1⟩
  obtain ⟨⟨c0, c1⟩, ⟨f0, f1⟩, hz⟩ := answer_cells hb1
  have Hb1 : Hid (Below w.heap.size w w1) := ((Below.refl _ _).alloc (Nat.le_refl _) _).trans (hb1.mono (by simp))
  simp at hm1 hz1
  have hl := run_look (P := Try.prog) 52 2 50 Try.underlying52 Try.underlying2 w1 (w.heap.size + 1) (unEs 4) 6 op i _ hm1 Hfind.out
  clear hb1 hm1
  go_wp2_with fail
  refine (HF.out _).mono ?_
  rintro e w2 ⟨rfl, h⟩
  subst w2
  go_wp2_with fail
  exact bodyPost_ret (v := .agg #[.int .i64 r, .int .i64 0]) (by simp [results, Try.results13, go_sem, c0, c1, hz]) rfl ⟨rfl, (by repeat (first | exact Hb1.out | refine Below.setCell ?_ (by simp) _ | refine Below.alloc ?_ (by simp; omega) _))⟩

set_option maxHeartbeats 400000 in
theorem implUNone (op a : Int) (w : World) (hfind : Instr.findNow (.int .i64) (.int .i64 op) (unEs 4).toList 0 = some none) :
    Calls Try.prog 13 #[.int .i64 op, .int .i64 a] w fun e w' => e = .returned (.agg #[.int .i64 0, .int .i64 0]) ∧ Below w.heap.size w w' := by
  have Hfind : Hid (Instr.findNow (.int .i64) (.int .i64 op) (unEs 4).toList 0 = some none) := hfind
  clear hfind
  go_enter Try.func13, Try.ntmps13
  go_wp2_with fail
  refine (unOps _).mono ?_
  rintro e w1 ⟨rfl, hb1, hm1, hz1⟩
  obtain ⟨⟨c0, c1⟩, ⟨f0, f1⟩, hz⟩ := answer_cells hb1
  have Hb1 : Hid (Below w.heap.size w w1) := ((Below.refl _ _).alloc (Nat.le_refl _) _).trans (hb1.mono (by simp))
  simp at hm1 hz1
  have hl := run_look_none (P := Try.prog) 52 2 50 Try.underlying52 Try.underlying2 w1 (w.heap.size + 1) (unEs 4) 6 op _ (zeroUn _) hm1 Hfind.out
  clear hb1 hm1
  go_wp2_with fail
  exact bodyPost_ret (v := .agg #[.int .i64 0, .int .i64 0]) (by simp [results, Try.results13, go_sem, c0, c1, hz]) rfl ⟨rfl, (by repeat (first | exact Hb1.out | refine Below.setCell ?_ (by simp) _ | refine Below.alloc ?_ (by simp; omega) _))⟩

theorem unEs_none (op : Int) (h : op < 24 ∨ 29 < op) : Instr.findNow (.int .i64) (.int .i64 op) (unEs 4).toList 0 = some none := by
  show Instr.findNow (.int .i64) (.int .i64 op) unL 0 = some none
  apply find_none
  · intro e he
    simp only [unL, List.mem_cons, List.not_mem_nil, or_false] at he
    rcases he with rfl | rfl | rfl | rfl | rfl | rfl <;> exact ⟨_, rfl⟩
  · intro e he
    simp only [unL, List.mem_cons, List.not_mem_nil, or_false] at he
    rcases he with rfl | rfl | rfl | rfl | rfl | rfl <;> (simp; omega)

/-- impl.Unary -/
theorem implUnary (op a : Int) (w : World) :
    Calls Try.prog 13 #[.int .i64 op, .int .i64 a] w fun e w' => e = .returned (.agg #[.int .i64 (unN op a), .int .i64 0]) ∧ Below w.heap.size w w' := by
  have hop : (op < 24 ∨ 29 < op) ∨ op = 24 ∨ op = 25 ∨ op = 26 ∨ op = 27 ∨ op = 28 ∨ op = 29 := by omega
  rcases hop with h | rfl | rfl | rfl | rfl | rfl | rfl
  · rw [unN_out a h]
    exact implUNone op a w (unEs_none op h)
  · exact implUFound 24 a _ _ _ w rfl Try.call41 (un24 a)
  · exact implUFound 25 a _ _ _ w rfl Try.call42 (un25 a)
  · exact implUFound 26 a _ _ _ w rfl Try.call44 (un26 a)
  · exact implUFound 27 a _ _ _ w rfl Try.call45 (un27 a)
  · exact implUFound 28 a _ _ _ w rfl Try.call46 (un28 a)
  · exact implUFound 29 a _ _ _ w rfl Try.call47 (un29 a)

set_option maxHeartbeats 400000 in
theorem specUOut (op a : Int) (w : World) (h : op < 24 ∨ 29 < op) :
    Calls Try.prog 14 #[.int .i64 op, .int .i64 a] w fun e w' => e = .returned (.agg #[.int .i64 0, .int .i64 0]) ∧ Below w.heap.size w w' := by
  go_enter Try.func14, Try.ntmps14
  go_wp2
  exact bodyPost_ret (v := .agg #[.int .i64 0, .int .i64 0]) (by simp [results, Try.results14, go_sem]) rfl ⟨rfl, (Below.refl _ _).alloc (Nat.le_refl _) _⟩

set_option maxHeartbeats 400000 in
theorem specU24 (a : Int) (w : World) :
    Calls Try.prog 14 #[.int .i64 24, .int .i64 a] w fun e w' => e = .returned (.agg #[.int .i64 (unN 24 a), .int .i64 0]) ∧ Below w.heap.size w w' := by
  rw [unN_24]
  go_enter Try.func14, Try.ntmps14
  go_wp2
  exact bodyPost_ret (v := .agg #[.int .i64 (wrap64 (-a)), .int .i64 0]) (by simp [results, Try.results14, go_sem]) rfl ⟨rfl, (Below.refl _ _).alloc (Nat.le_refl _) _⟩

set_option maxHeartbeats 400000 in
theorem specU25 (a : Int) (w : World) :
    Calls Try.prog 14 #[.int .i64 25, .int .i64 a] w fun e w' => e = .returned (.agg #[.int .i64 (unN 25 a), .int .i64 0]) ∧ Below w.heap.size w w' := by
  rw [unN_25]
  go_enter Try.func14, Try.ntmps14
  go_wp2
  exact bodyPost_ret (v := .agg #[.int .i64 (bits .xor .i64 (-1) a), .int .i64 0]) (by simp [results, Try.results14, go_sem]) rfl ⟨rfl, (Below.refl _ _).alloc (Nat.le_refl _) _⟩

set_option maxHeartbeats 400000 in
theorem specU26 (a : Int) (w : World) :
    Calls Try.prog 14 #[.int .i64 26, .int .i64 a] w fun e w' => e = .returned (.agg #[.int .i64 (unN 26 a), .int .i64 0]) ∧ Below w.heap.size w w' := by
  rw [unN_26]
  go_enter Try.func14, Try.ntmps14
  go_wp2
  exact bodyPost_ret (v := .agg #[.int .i64 (wrap64 (IntKind.i8.wrap a)), .int .i64 0]) (by simp [results, Try.results14, go_sem]) rfl ⟨rfl, (Below.refl _ _).alloc (Nat.le_refl _) _⟩

set_option maxHeartbeats 400000 in
theorem specU27 (a : Int) (w : World) :
    Calls Try.prog 14 #[.int .i64 27, .int .i64 a] w fun e w' => e = .returned (.agg #[.int .i64 (unN 27 a), .int .i64 0]) ∧ Below w.heap.size w w' := by
  rw [unN_27]
  go_enter Try.func14, Try.ntmps14
  go_wp2
  exact bodyPost_ret (v := .agg #[.int .i64 (wrap64 (IntKind.i16.wrap a)), .int .i64 0]) (by simp [results, Try.results14, go_sem]) rfl ⟨rfl, (Below.refl _ _).alloc (Nat.le_refl _) _⟩

set_option maxHeartbeats 400000 in
theorem specU28 (a : Int) (w : World) :
    Calls Try.prog 14 #[.int .i64 28, .int .i64 a] w fun e w' => e = .returned (.agg #[.int .i64 (unN 28 a), .int .i64 0]) ∧ Below w.heap.size w w' := by
  rw [unN_28]
  go_enter Try.func14, Try.ntmps14
  go_wp2
  exact bodyPost_ret (v := .agg #[.int .i64 (wrap64 (wrap32 a)), .int .i64 0]) (by simp [results, Try.results14, go_sem]) rfl ⟨rfl, (Below.refl _ _).alloc (Nat.le_refl _) _⟩

set_option maxHeartbeats 400000 in
theorem specU29 (a : Int) (w : World) :
    Calls Try.prog 14 #[.int .i64 29, .int .i64 a] w fun e w' => e = .returned (.agg #[.int .i64 (unN 29 a), .int .i64 0]) ∧ Below w.heap.size w w' := by
  rw [unN_29]
  go_enter Try.func14, Try.ntmps14
  go_wp2
  exact bodyPost_ret (v := .agg #[.int .i64 (a % 4294967296), .int .i64 0]) (by simp [results, Try.results14, go_sem]) rfl ⟨rfl, (Below.refl _ _).alloc (Nat.le_refl _) _⟩

/-- spec.Unary -/
theorem specUnary (op a : Int) (w : World) :
    Calls Try.prog 14 #[.int .i64 op, .int .i64 a] w fun e w' => e = .returned (.agg #[.int .i64 (unN op a), .int .i64 0]) ∧ Below w.heap.size w w' := by
  have hop : (op < 24 ∨ 29 < op) ∨ op = 24 ∨ op = 25 ∨ op = 26 ∨ op = 27 ∨ op = 28 ∨ op = 29 := by omega
  rcases hop with h | rfl | rfl | rfl | rfl | rfl | rfl
  · rw [unN_out a h]
    exact specUOut op a w h
  · exact specU24 a w
  · exact specU25 a w
  · exact specU26 a w
  · exact specU27 a w
  · exact specU28 a w
  · exact specU29 a w
end Go.Proofs.Ytpcnnagcpckdlaa
