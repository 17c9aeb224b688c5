/- Ops of one number: what impl.Unary and spec.Unary answer, as one plain function; the table that impl lays. Ops of one number: that impl.Unary and spec.Unary both answer one plain function. -/
import Derived.Test.YtnknnncehcofnaaGreatDoorJ2TakesW
import Derived.Laws.EntriesVeiled
namespace Go.Proofs.YtnknnncehcofnaaGreatDoor
open Go.RowKit

/-- the entries, in the order in which they are laid -/
def unL : List MapEntry := [
  ⟨.int .i64 24, .agg #[.func (Fn.func 252) #[] #[]], 0⟩,
  ⟨.int .i64 25, .agg #[.func (Fn.func 253) #[] #[]], 1⟩,
  ⟨.int .i64 26, .agg #[.func (Fn.func 273) #[] #[]], 2⟩,
  ⟨.int .i64 27, .agg #[.func (Fn.func 274) #[] #[]], 3⟩,
  ⟨.int .i64 28, .agg #[.func (Fn.func 275) #[] #[]], 4⟩,
  ⟨.int .i64 29, .agg #[.func (Fn.func 276) #[] #[]], 5⟩]
def unEs (k : Nat) : Array MapEntry := (unL.take (2 + k)).toArray

theorem narrow (w : World) :
    Calls Tryz.prog 254 #[] w fun e w' => e = .returned (.agg #[.func (Fn.func 273) #[] #[], .func (Fn.func 274) #[] #[], .func (Fn.func 275) #[] #[], .func (Fn.func 276) #[] #[]]) ∧ w' = w.alloc (.cells #[.func (Fn.func 273) #[] #[], .func (Fn.func 274) #[] #[], .func (Fn.func 275) #[] #[], .func (Fn.func 276) #[] #[]] 283) := by
  go_enter Tryz.func254, Tryz.ntmps254
  go_wp2
  exact bodyPost_ret (v := .agg #[.func (Fn.func 273) #[] #[], .func (Fn.func 274) #[] #[], .func (Fn.func 275) #[] #[], .func (Fn.func 276) #[] #[]]) (by simp [results, Tryz.results254, go_sem]) rfl ⟨rfl, rfl⟩

set_option maxHeartbeats 400000 in
theorem unOps (w : World) :
    Calls Tryz.prog 219 #[] w fun e w' => e = .returned (.map (some w.heap.size)) ∧ Below w.heap.size w w' ∧ w'.heap[w.heap.size]? = some (.map (unEs 4) 6) ∧ w.heap.size < w'.heap.size := by
  have hmm := @run_makeMap Tryz.prog
  have up0 := fun (w : World) (v : Value) => run_insert_new (P := Tryz.prog) 265 2 263 Tryz.underlying265 Tryz.underlying2 w #[] 0 (24) v rfl
  have up1 := fun (w : World) (v0 v : Value) => run_insert_new (P := Tryz.prog) 265 2 263 Tryz.underlying265 Tryz.underlying2 w #[⟨.int .i64 (24), v0, 0⟩] 1 (25) v rfl
  go_enter Tryz.func219, Tryz.ntmps219
  go_wp2_with fail
  refine (narrow _).mono ?_
  rintro e w1 ⟨rfl, rfl⟩
  clear up0 up1 hmm
  go_wp2_with fail
  go_loopw [9] (fun i wr => ∃ k : Nat, k ≤ 4 ∧ i = .int .i64 k ∧ wr.heap[w.heap.size]? = some (.map (unEs k) (2 + k)) ∧ Below w.heap.size w wr ∧ w.heap.size < wr.heap.size) (fun i _ => 4 - (intOf i).toNat)
  case atStart =>
    refine ⟨0, by omega, rfl, ?_, ((Below.refl _ _).alloc (Nat.le_refl _) _).alloc (by simp) _, by simp; omega⟩
    rw [Below.heap_alloc _ _ _ (by simp)]
    exact (MapKept.heap_alloc w _).1
  case round =>
    obtain ⟨k, hk, rfl, hm, hbel, hsz⟩ := hrel
    have Hbel : Hid (Below w.heap.size w wr) := hbel
    have Hm : Hid (wr.heap[w.heap.size]? = some (.map (unEs k) (2 + k))) := hm
    clear hbel hm
    have hcase : k = 0 ∨ k = 1 ∨ k = 2 ∨ k = 3 ∨ k = 4 := by omega
    rcases hcase with rfl | rfl | rfl | rfl | rfl
    · have ix : ∀ w, (Instr.index 283 (.agg #[.func (Fn.func 273) #[] #[], .func (Fn.func 274) #[] #[], .func (Fn.func 275) #[] #[], .func (Fn.func 276) #[] #[]]) (.int .i64 0)).run Tryz.prog w = .ok (.agg #[.func (Fn.func 273) #[] #[]]) w := fun _ => by kernel_rfl
      have hm2 : ∀ o, (wr.alloc o).heap[w.heap.size]? = some (.map (unEs 0) 2) := fun o => (Below.heap_alloc _ _ _ hsz).trans Hm.out
      have up := fun o => run_insert_block (P := Tryz.prog) 265 2 263 Tryz.underlying265 Tryz.underlying2 (wr.alloc o) w.heap.size (unEs 0) 2 26 (.agg #[.func (Fn.func 273) #[] #[]]) (hm2 o) rfl
      have Hm2 : Hid (∀ o, (wr.alloc o).heap[w.heap.size]? = some (.map (unEs 0) 2)) := hm2
      clear hm2
      go_wp2_with fail
      go_roundw
      case rel => exact ⟨1, by omega, rfl, ChangeMaps.heap_setBlock_same (Hm2.out _) _, below_setBlock (Hbel.out.alloc (by omega) _) (Nat.le_refl _) _, by rw [size_setBlock]; simp; omega⟩
      case measure => simp [intOf]
    · have ix : ∀ w, (Instr.index 283 (.agg #[.func (Fn.func 273) #[] #[], .func (Fn.func 274) #[] #[], .func (Fn.func 275) #[] #[], .func (Fn.func 276) #[] #[]]) (.int .i64 1)).run Tryz.prog w = .ok (.agg #[.func (Fn.func 274) #[] #[]]) w := fun _ => by kernel_rfl
      have hm2 : ∀ o, (wr.alloc o).heap[w.heap.size]? = some (.map (unEs 1) 3) := fun o => (Below.heap_alloc _ _ _ hsz).trans Hm.out
      have up := fun o => run_insert_block (P := Tryz.prog) 265 2 263 Tryz.underlying265 Tryz.underlying2 (wr.alloc o) w.heap.size (unEs 1) 3 27 (.agg #[.func (Fn.func 274) #[] #[]]) (hm2 o) rfl
      have Hm2 : Hid (∀ o, (wr.alloc o).heap[w.heap.size]? = some (.map (unEs 1) 3)) := hm2
      clear hm2
      go_wp2_with fail
      go_roundw
      case rel => exact ⟨2, by omega, rfl, ChangeMaps.heap_setBlock_same (Hm2.out _) _, below_setBlock (Hbel.out.alloc (by omega) _) (Nat.le_refl _) _, by rw [size_setBlock]; simp; omega⟩
      case measure => simp [intOf]
    · have ix : ∀ w, (Instr.index 283 (.agg #[.func (Fn.func 273) #[] #[], .func (Fn.func 274) #[] #[], .func (Fn.func 275) #[] #[], .func (Fn.func 276) #[] #[]]) (.int .i64 2)).run Tryz.prog w = .ok (.agg #[.func (Fn.func 275) #[] #[]]) w := fun _ => by kernel_rfl
      have hm2 : ∀ o, (wr.alloc o).heap[w.heap.size]? = some (.map (unEs 2) 4) := fun o => (Below.heap_alloc _ _ _ hsz).trans Hm.out
      have up := fun o => run_insert_block (P := Tryz.prog) 265 2 263 Tryz.underlying265 Tryz.underlying2 (wr.alloc o) w.heap.size (unEs 2) 4 28 (.agg #[.func (Fn.func 275) #[] #[]]) (hm2 o) rfl
      have Hm2 : Hid (∀ o, (wr.alloc o).heap[w.heap.size]? = some (.map (unEs 2) 4)) := hm2
      clear hm2
      go_wp2_with fail
      go_roundw
      case rel => exact ⟨3, by omega, rfl, ChangeMaps.heap_setBlock_same (Hm2.out _) _, below_setBlock (Hbel.out.alloc (by omega) _) (Nat.le_refl _) _, by rw [size_setBlock]; simp; omega⟩
      case measure => simp [intOf]
    · have ix : ∀ w, (Instr.index 283 (.agg #[.func (Fn.func 273) #[] #[], .func (Fn.func 274) #[] #[], .func (Fn.func 275) #[] #[], .func (Fn.func 276) #[] #[]]) (.int .i64 3)).run Tryz.prog w = .ok (.agg #[.func (Fn.func 276) #[] #[]]) w := fun _ => by kernel_rfl
      have hm2 : ∀ o, (wr.alloc o).heap[w.heap.size]? = some (.map (unEs 3) 5) := fun o => (Below.heap_alloc _ _ _ hsz).trans Hm.out
      have up := fun o => run_insert_block (P := Tryz.prog) 265 2 263 Tryz.underlying265 Tryz.underlying2 (wr.alloc o) w.heap.size (unEs 3) 5 29 (.agg #[.func (Fn.func 276) #[] #[]]) (hm2 o) rfl
      have Hm2 : Hid (∀ o, (wr.alloc o).heap[w.heap.size]? = some (.map (unEs 3) 5)) := hm2
      clear hm2
      go_wp2_with fail
      go_roundw
      case rel => exact ⟨4, by omega, rfl, ChangeMaps.heap_setBlock_same (Hm2.out _) _, below_setBlock (Hbel.out.alloc (by omega) _) (Nat.le_refl _) _, by rw [size_setBlock]; simp; omega⟩
      case measure => simp [intOf]
    · go_wp2_with fail
      go_ret
      exact ⟨rfl, Hbel.out, Hm.out, hsz⟩
end Go.Proofs.YtnknnncehcofnaaGreatDoor

namespace Go.Proofs.YtnknnncehcofnaaGreatDoor
open Go.RowKit

/-- the number that both answer -/
def unN (op a : Int) : Int :=
  if op = 24 then wrap64 (-a) else
  if op = 25 then bits .xor .i64 (-1) a else
  if op = 26 then wrap64 (IntKind.i8.wrap a) else
  if op = 27 then wrap64 (IntKind.i16.wrap a) else
  if op = 28 then wrap64 (wrap32 a) else
  if op = 29 then a % 4294967296 else
  0
theorem unN_24 (a : Int) : unN 24 a = wrap64 (-a) := rfl
theorem unN_25 (a : Int) : unN 25 a = bits .xor .i64 (-1) a := rfl
theorem unN_26 (a : Int) : unN 26 a = wrap64 (IntKind.i8.wrap a) := rfl
theorem unN_27 (a : Int) : unN 27 a = wrap64 (IntKind.i16.wrap a) := rfl
theorem unN_28 (a : Int) : unN 28 a = wrap64 (wrap32 a) := rfl
theorem unN_29 (a : Int) : unN 29 a = a % 4294967296 := rfl
theorem unN_out {op : Int} (a : Int) (h : op < 24 ∨ 29 < op) : unN op a = 0 := by
  unfold unN
  rw [if_neg (show ¬ op = 24 by omega)]
  rw [if_neg (show ¬ op = 25 by omega)]
  rw [if_neg (show ¬ op = 26 by omega)]
  rw [if_neg (show ¬ op = 27 by omega)]
  rw [if_neg (show ¬ op = 28 by omega)]
  rw [if_neg (show ¬ op = 29 by omega)]

theorem un24 (a : Int) (w : World) :
    Calls Tryz.prog 252 #[.int .i64 a] w fun e w' => e = .returned (.int .i64 (unN 24 a)) ∧ w' = w := by
  rw [unN_24]
  go_enter Tryz.func252, Tryz.ntmps252
  go_wp2
  go_ret
  exact ⟨rfl, rfl⟩

theorem un25 (a : Int) (w : World) :
    Calls Tryz.prog 253 #[.int .i64 a] w fun e w' => e = .returned (.int .i64 (unN 25 a)) ∧ w' = w := by
  rw [unN_25]
  go_enter Tryz.func253, Tryz.ntmps253
  go_wp2
  go_ret
  exact ⟨rfl, rfl⟩

theorem un26 (a : Int) (w : World) :
    Calls Tryz.prog 273 #[.int .i64 a] w fun e w' => e = .returned (.int .i64 (unN 26 a)) ∧ w' = w := by
  rw [unN_26]
  go_enter Tryz.func273, Tryz.ntmps273
  go_wp2
  go_ret
  exact ⟨rfl, rfl⟩

theorem un27 (a : Int) (w : World) :
    Calls Tryz.prog 274 #[.int .i64 a] w fun e w' => e = .returned (.int .i64 (unN 27 a)) ∧ w' = w := by
  rw [unN_27]
  go_enter Tryz.func274, Tryz.ntmps274
  go_wp2
  go_ret
  exact ⟨rfl, rfl⟩

theorem un28 (a : Int) (w : World) :
    Calls Tryz.prog 275 #[.int .i64 a] w fun e w' => e = .returned (.int .i64 (unN 28 a)) ∧ w' = w := by
  rw [unN_28]
  go_enter Tryz.func275, Tryz.ntmps275
  go_wp2
  go_ret
  exact ⟨rfl, rfl⟩

theorem un29 (a : Int) (w : World) :
    Calls Tryz.prog 276 #[.int .i64 a] w fun e w' => e = .returned (.int .i64 (unN 29 a)) ∧ w' = w := by
  rw [unN_29]
  go_enter Tryz.func276, Tryz.ntmps276
  go_wp2
  go_ret
  exact ⟨rfl, rfl⟩

theorem zeroUn (w : World) : (zeroValue 263).run Tryz.prog w = .ok (.agg #[.nilFunc]) w := by kernel_rfl

/-- the two cells of the answer, behind a call that lays blocks alone -/
theorem answer_cells {w w1 : World} {n t : Int} {T : TypeId} (hb : Below (w.alloc (.cells #[.int .i64 n, .int .i64 t] T)).heap.size (w.alloc (.cells #[.int .i64 n, .int .i64 t] T)) w1) :
    (w1.cell? ⟨w.heap.size, 0, none⟩ = some (.int .i64 n) ∧ w1.cell? ⟨w.heap.size, 1, none⟩ = some (.int .i64 t)) ∧ (w1.frozen? ⟨w.heap.size, 0, none⟩ = false ∧ w1.frozen? ⟨w.heap.size, 1, none⟩ = false) ∧ w.heap.size < w1.heap.size := by
  refine ⟨⟨?_, ?_⟩, ⟨?_, ?_⟩, ?_⟩
  · rw [hb.cell (by simp)]; simp
  · rw [hb.cell (by simp)]; simp
  · rw [hb.frozen (by simp)]; simp
  · rw [hb.frozen (by simp)]; simp
  · have := hb.size; simp at this; omega

set_option maxHeartbeats 400000 in
theorem implUFound (op a r : Int) (F i : Nat) (w : World) (hfind : Instr.findNow (.int .i64) (.int .i64 op) (unEs 4).toList 0 = some (some (i, .agg #[.func (Fn.func F) #[] #[]])))
    (eF : ∀ args w, (callFunc F args).run Tryz.prog w = .ok (.enter F args) w) (hF : ∀ w, Calls Tryz.prog F #[.int .i64 a] w fun e w' => e = .returned (.int .i64 r) ∧ w' = w) :
    Calls Tryz.prog 190 #[.int .i64 op, .int .i64 a] w fun e w' => e = .returned (.agg #[.int .i64 r, .int .i64 0]) ∧ Below w.heap.size w w' := by
  have HF : Hid (∀ w, Calls Tryz.prog F #[.int .i64 a] w fun e w' => e = .returned (.int .i64 r) ∧ w' = w) := hF
  have Hfind : Hid (Instr.findNow (.int .i64) (.int .i64 op) (unEs 4).toList 0 = some (some (i, .agg #[.func (Fn.func F) #[] #[]]))) := hfind
  clear hF hfind
  go_enter Tryz.func190, Tryz.ntmps190
  go_wp2_with fail
  refine (unOps _).mono ?_
  rintro e w1 ⟨rfl, hb1, hm1, hz1⟩
  obtain ⟨⟨c0, c1⟩, ⟨f0, f1⟩, hz⟩ := answer_cells hb1
  have Hb1 : Hid (Below w.heap.size w w1) := ((Below.refl _ _).alloc (Nat.le_refl _) _).trans (hb1.mono (by simp))
  simp at hm1 hz1
  have hl := run_look (P := Tryz.prog) 265 2 263 Tryz.underlying265 Tryz.underlying2 w1 (w.heap.size + 1) (unEs 4) 6 op i _ hm1 Hfind.out
  clear hb1 hm1
  go_wp2_with fail
  refine (HF.out _).mono ?_
  rintro e w2 ⟨rfl, h⟩
  subst w2
  go_wp2_with fail
  exact bodyPost_ret (v := .agg #[.int .i64 r, .int .i64 0]) (by simp [results, Tryz.results190, go_sem, c0, c1, hz]) rfl ⟨rfl, (by repeat (first | exact Hb1.out | refine Below.setCell ?_ (by simp) _ | refine Below.alloc ?_ (by simp; omega) _))⟩

set_option maxHeartbeats 400000 in
theorem implUNone (op a : Int) (w : World) (hfind : Instr.findNow (.int .i64) (.int .i64 op) (unEs 4).toList 0 = some none) :
    Calls Tryz.prog 190 #[.int .i64 op, .int .i64 a] w fun e w' => e = .returned (.agg #[.int .i64 0, .int .i64 0]) ∧ Below w.heap.size w w' := by
  have Hfind : Hid (Instr.findNow (.int .i64) (.int .i64 op) (unEs 4).toList 0 = some none) := hfind
  clear hfind
  go_enter Tryz.func190, Tryz.ntmps190
  go_wp2_with fail
  refine (unOps _).mono ?_
  rintro e w1 ⟨rfl, hb1, hm1, hz1⟩
  obtain ⟨⟨c0, c1⟩, ⟨f0, f1⟩, hz⟩ := answer_cells hb1
  have Hb1 : Hid (Below w.heap.size w w1) := ((Below.refl _ _).alloc (Nat.le_refl _) _).trans (hb1.mono (by simp))
  simp at hm1 hz1
  have hl := run_look_none (P := Tryz.prog) 265 2 263 Tryz.underlying265 Tryz.underlying2 w1 (w.heap.size + 1) (unEs 4) 6 op _ (zeroUn _) hm1 Hfind.out
  clear hb1 hm1
  go_wp2_with fail
  exact bodyPost_ret (v := .agg #[.int .i64 0, .int .i64 0]) (by simp [results, Tryz.results190, go_sem, c0, c1, hz]) rfl ⟨rfl, (by repeat (first | exact Hb1.out | refine Below.setCell ?_ (by simp) _ | refine Below.alloc ?_ (by simp; omega) _))⟩

theorem unEs_none (op : Int) (h : op < 24 ∨ 29 < op) : Instr.findNow (.int .i64) (.int .i64 op) (unEs 4).toList 0 = some none := by
  show Instr.findNow (.int .i64) (.int .i64 op) unL 0 = some none
  apply find_none
  · intro e he
    simp only [unL, List.mem_cons, List.not_mem_nil, or_false] at he
    rcases he with rfl | rfl | rfl | rfl | rfl | rfl <;> exact ⟨_, rfl⟩
  · intro e he
    simp only [unL, List.mem_cons, List.not_mem_nil, or_false] at he
    rcases he with rfl | rfl | rfl | rfl | rfl | rfl <;> (simp; omega)

/-- impl.Unary -/
theorem implUnary (op a : Int) (w : World) :
    Calls Tryz.prog 190 #[.int .i64 op, .int .i64 a] w fun e w' => e = .returned (.agg #[.int .i64 (unN op a), .int .i64 0]) ∧ Below w.heap.size w w' := by
  have hop : (op < 24 ∨ 29 < op) ∨ op = 24 ∨ op = 25 ∨ op = 26 ∨ op = 27 ∨ op = 28 ∨ op = 29 := by omega
  rcases hop with h | rfl | rfl | rfl | rfl | rfl | rfl
  · rw [unN_out a h]
    exact implUNone op a w (unEs_none op h)
  · exact implUFound 24 a _ _ _ w rfl Tryz.call252 (un24 a)
  · exact implUFound 25 a _ _ _ w rfl Tryz.call253 (un25 a)
  · exact implUFound 26 a _ _ _ w rfl Tryz.call273 (un26 a)
  · exact implUFound 27 a _ _ _ w rfl Tryz.call274 (un27 a)
  · exact implUFound 28 a _ _ _ w rfl Tryz.call275 (un28 a)
  · exact implUFound 29 a _ _ _ w rfl Tryz.call276 (un29 a)

set_option maxHeartbeats 400000 in
theorem specUOut (op a : Int) (w : World) (h : op < 24 ∨ 29 < op) :
    Calls Tryz.prog 172 #[.int .i64 op, .int .i64 a] w fun e w' => e = .returned (.agg #[.int .i64 0, .int .i64 0]) ∧ Below w.heap.size w w' := by
  go_enter Tryz.func172, Tryz.ntmps172
  go_wp2
  exact bodyPost_ret (v := .agg #[.int .i64 0, .int .i64 0]) (by simp [results, Tryz.results172, go_sem]) rfl ⟨rfl, (Below.refl _ _).alloc (Nat.le_refl _) _⟩

set_option maxHeartbeats 400000 in
theorem specU24 (a : Int) (w : World) :
    Calls Tryz.prog 172 #[.int .i64 24, .int .i64 a] w fun e w' => e = .returned (.agg #[.int .i64 (unN 24 a), .int .i64 0]) ∧ Below w.heap.size w w' := by
  rw [unN_24]
  go_enter Tryz.func172, Tryz.ntmps172
  go_wp2
  exact bodyPost_ret (v := .agg #[.int .i64 (wrap64 (-a)), .int .i64 0]) (by simp [results, Tryz.results172, go_sem]) rfl ⟨rfl, (Below.refl _ _).alloc (Nat.le_refl _) _⟩

set_option maxHeartbeats 400000 in
theorem specU25 (a : Int) (w : World) :
    Calls Tryz.prog 172 #[.int .i64 25, .int .i64 a] w fun e w' => e = .returned (.agg #[.int .i64 (unN 25 a), .int .i64 0]) ∧ Below w.heap.size w w' := by
  rw [unN_25]
  go_enter Tryz.func172, Tryz.ntmps172
  go_wp2
  exact bodyPost_ret (v := .agg #[.int .i64 (bits .xor .i64 (-1) a), .int .i64 0]) (by simp [results, Tryz.results172, go_sem]) rfl ⟨rfl, (Below.refl _ _).alloc (Nat.le_refl _) _⟩

set_option maxHeartbeats 400000 in
theorem specU26 (a : Int) (w : World) :
    Calls Tryz.prog 172 #[.int .i64 26, .int .i64 a] w fun e w' => e = .returned (.agg #[.int .i64 (unN 26 a), .int .i64 0]) ∧ Below w.heap.size w w' := by
  rw [unN_26]
  go_enter Tryz.func172, Tryz.ntmps172
  go_wp2
  exact bodyPost_ret (v := .agg #[.int .i64 (wrap64 (IntKind.i8.wrap a)), .int .i64 0]) (by simp [results, Tryz.results172, go_sem]) rfl ⟨rfl, (Below.refl _ _).alloc (Nat.le_refl _) _⟩

set_option maxHeartbeats 400000 in
theorem specU27 (a : Int) (w : World) :
    Calls Tryz.prog 172 #[.int .i64 27, .int .i64 a] w fun e w' => e = .returned (.agg #[.int .i64 (unN 27 a), .int .i64 0]) ∧ Below w.heap.size w w' := by
  rw [unN_27]
  go_enter Tryz.func172, Tryz.ntmps172
  go_wp2
  exact bodyPost_ret (v := .agg #[.int .i64 (wrap64 (IntKind.i16.wrap a)), .int .i64 0]) (by simp [results, Tryz.results172, go_sem]) rfl ⟨rfl, (Below.refl _ _).alloc (Nat.le_refl _) _⟩

set_option maxHeartbeats 400000 in
theorem specU28 (a : Int) (w : World) :
    Calls Tryz.prog 172 #[.int .i64 28, .int .i64 a] w fun e w' => e = .returned (.agg #[.int .i64 (unN 28 a), .int .i64 0]) ∧ Below w.heap.size w w' := by
  rw [unN_28]
  go_enter Tryz.func172, Tryz.ntmps172
  go_wp2
  exact bodyPost_ret (v := .agg #[.int .i64 (wrap64 (wrap32 a)), .int .i64 0]) (by simp [results, Tryz.results172, go_sem]) rfl ⟨rfl, (Below.refl _ _).alloc (Nat.le_refl _) _⟩

set_option maxHeartbeats 400000 in
theorem specU29 (a : Int) (w : World) :
    Calls Tryz.prog 172 #[.int .i64 29, .int .i64 a] w fun e w' => e = .returned (.agg #[.int .i64 (unN 29 a), .int .i64 0]) ∧ Below w.heap.size w w' := by
  rw [unN_29]
  go_enter Tryz.func172, Tryz.ntmps172
  go_wp2
  exact bodyPost_ret (v := .agg #[.int .i64 (a % 4294967296), .int .i64 0]) (by simp [results, Tryz.results172, go_sem]) rfl ⟨rfl, (Below.refl _ _).alloc (Nat.le_refl _) _⟩

/-- spec.Unary -/
theorem specUnary (op a : Int) (w : World) :
    Calls Tryz.prog 172 #[.int .i64 op, .int .i64 a] w fun e w' => e = .returned (.agg #[.int .i64 (unN op a), .int .i64 0]) ∧ Below w.heap.size w w' := by
  have hop : (op < 24 ∨ 29 < op) ∨ op = 24 ∨ op = 25 ∨ op = 26 ∨ op = 27 ∨ op = 28 ∨ op = 29 := by omega
  rcases hop with h | rfl | rfl | rfl | rfl | rfl | rfl
  · rw [unN_out a h]
    exact specUOut op a w h
  · exact specU24 a w
  · exact specU25 a w
  · exact specU26 a w
  · exact specU27 a w
  · exact specU28 a w
  · exact specU29 a w
end Go.Proofs.YtnknnncehcofnaaGreatDoor
