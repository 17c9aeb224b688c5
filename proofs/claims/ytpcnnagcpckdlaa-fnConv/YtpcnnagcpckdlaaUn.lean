/- Ops of one number: what impl.Unary and spec.Unary answer, as one plain function; the table that impl lays. -/
import Derived.Test.YtpcnnagcpckdlaaMapLit
import Derived.Test.YtpcnnagcpckdlaaBits
import Derived.Laws.EntriesVeiled
namespace Go.Proofs.Ytpcnnagcpckdlaa
open Go.RowKit

/-- the entries, in the order in which they are laid -/
def unL : List MapEntry := [
  ⟨.int .i64 24, .agg #[.func (Fn.func 41) #[] #[]], 0⟩,
  ⟨.int .i64 25, .agg #[.func (Fn.func 42) #[] #[]], 1⟩,
  ⟨.int .i64 26, .agg #[.func (Fn.func 44) #[] #[]], 2⟩,
  ⟨.int .i64 27, .agg #[.func (Fn.func 45) #[] #[]], 3⟩,
  ⟨.int .i64 28, .agg #[.func (Fn.func 46) #[] #[]], 4⟩,
  ⟨.int .i64 29, .agg #[.func (Fn.func 47) #[] #[]], 5⟩]
def unEs (k : Nat) : Array MapEntry := (unL.take (2 + k)).toArray

theorem narrow (w : World) :
    Calls Try.prog 43 #[] w fun e w' => e = .returned (.agg #[.func (Fn.func 44) #[] #[], .func (Fn.func 45) #[] #[], .func (Fn.func 46) #[] #[], .func (Fn.func 47) #[] #[]]) ∧ w' = w.alloc (.cells #[.func (Fn.func 44) #[] #[], .func (Fn.func 45) #[] #[], .func (Fn.func 46) #[] #[], .func (Fn.func 47) #[] #[]] 60) := by
  go_enter Try.func43, Try.ntmps43
  go_wp2
  exact bodyPost_ret (v := .agg #[.func (Fn.func 44) #[] #[], .func (Fn.func 45) #[] #[], .func (Fn.func 46) #[] #[], .func (Fn.func 47) #[] #[]]) (by simp [results, Try.results43, go_sem]) rfl ⟨rfl, rfl⟩

set_option maxHeartbeats 400000 in
theorem unOps (w : World) :
    Calls Try.prog 24 #[] w fun e w' => e = .returned (.map (some w.heap.size)) ∧ Below w.heap.size w w' ∧ w'.heap[w.heap.size]? = some (.map (unEs 4) 6) ∧ w.heap.size < w'.heap.size := by
  have hmm := @run_makeMap Try.prog
  have up0 := fun (w : World) (v : Value) => run_insert_new (P := Try.prog) 52 2 50 Try.underlying52 Try.underlying2 w #[] 0 (24) v rfl
  have up1 := fun (w : World) (v0 v : Value) => run_insert_new (P := Try.prog) 52 2 50 Try.underlying52 Try.underlying2 w #[⟨.int .i64 (24), v0, 0⟩] 1 (25) v rfl
  go_enter Try.func24, Try.ntmps24
  go_wp2_with fail
  refine (narrow _).mono ?_
  rintro e w1 ⟨rfl, rfl⟩
  clear up0 up1 hmm
  go_wp2_with fail
  go_loopw [9] (fun i wr => ∃ k : Nat, k ≤ 4 ∧ i = .int .i64 k ∧ wr.heap[w.heap.size]? = some (.map (unEs k) (2 + k)) ∧ Below w.heap.size w wr ∧ w.heap.size < wr.heap.size) (fun i _ => 4 - (intOf i).toNat)
  case atStart =>
    refine ⟨0, by omega, rfl, ?_, ((Below.refl _ _).alloc (Nat.le_refl _) _).alloc (by simp) _, by simp; omega⟩
    rw [Below.heap_alloc _ _ _ (by simp)]
    exact (MapKept.heap_alloc w _).1
  case round =>
    obtain ⟨k, hk, rfl, hm, hbel, hsz⟩ := hrel
    have Hbel : Hid (Below w.heap.size w wr) := hbel
    have Hm : Hid (wr.heap[w.heap.size]? = some (.map (unEs k) (2 + k))) := hm
    clear hbel hm
    have hcase : k = 0 ∨ k = 1 ∨ k = 2 ∨ k = 3 ∨ k = 4 := by omega
    rcases hcase with rfl | rfl | rfl | rfl | rfl
    · have ix : ∀ w, (Instr.index 60 (.agg #[.func (Fn.func 44) #[] #[], .func (Fn.func 45) #[] #[], .func (Fn.func 46) #[] #[], .func (Fn.func 47) #[] #[]]) (.int .i64 0)).run Try.prog w = .ok (.agg #[.func (Fn.func 44) #[] #[]]) w := fun _ => by kernel_rfl
      have hm2 : ∀ o, (wr.alloc o).heap[w.heap.size]? = some (.map (unEs 0) 2) := fun o => (Below.heap_alloc _ _ _ hsz).trans Hm.out
      have up := fun o => run_insert_block (P := Try.prog) 52 2 50 Try.underlying52 Try.underlying2 (wr.alloc o) w.heap.size (unEs 0) 2 26 (.agg #[.func (Fn.func 44) #[] #[]]) (hm2 o) rfl
      have Hm2 : Hid (∀ o, (wr.alloc o).heap[w.heap.size]? = some (.map (unEs 0) 2)) := hm2
      clear hm2
      go_wp2_with fail
      go_roundw
      case rel => exact ⟨1, by omega, rfl, ChangeMaps.heap_setBlock_same (Hm2.out _) _, below_setBlock (Hbel.out.alloc (by omega) _) (Nat.le_refl _) _, by rw [size_setBlock]; simp; omega⟩
      case measure => simp [intOf]
    · have ix : ∀ w, (Instr.index 60 (.agg #[.func (Fn.func 44) #[] #[], .func (Fn.func 45) #[] #[], .func (Fn.func 46) #[] #[], .func (Fn.func 47) #[] #[]]) (.int .i64 1)).run Try.prog w = .ok (.agg #[.func (Fn.func 45) #[] #[]]) w := fun _ => by kernel_rfl
      have hm2 : ∀ o, (wr.alloc o).heap[w.heap.size]? = some (.map (unEs 1) 3) := fun o => (Below.heap_alloc _ _ _ hsz).trans Hm.out
      have up := fun o => run_insert_block (P := Try.prog) 52 2 50 Try.underlying52 Try.underlying2 (wr.alloc o) w.heap.size (unEs 1) 3 27 (.agg #[.func (Fn.func 45) #[] #[]]) (hm2 o) rfl
      have Hm2 : Hid (∀ o, (wr.alloc o).heap[w.heap.size]? = some (.map (unEs 1) 3)) := hm2
      clear hm2
      go_wp2_with fail
      go_roundw
      case rel => exact ⟨2, by omega, rfl, ChangeMaps.heap_setBlock_same (Hm2.out _) _, below_setBlock (Hbel.out.alloc (by omega) _) (Nat.le_refl _) _, by rw [size_setBlock]; simp; omega⟩
      case measure => simp [intOf]
    · have ix : ∀ w, (Instr.index 60 (.agg #[.func (Fn.func 44) #[] #[], .func (Fn.func 45) #[] #[], .func (Fn.func 46) #[] #[], .func (Fn.func 47) #[] #[]]) (.int .i64 2)).run Try.prog w = .ok (.agg #[.func (Fn.func 46) #[] #[]]) w := fun _ => by kernel_rfl
      have hm2 : ∀ o, (wr.alloc o).heap[w.heap.size]? = some (.map (unEs 2) 4) := fun o => (Below.heap_alloc _ _ _ hsz).trans Hm.out
      have up := fun o => run_insert_block (P := Try.prog) 52 2 50 Try.underlying52 Try.underlying2 (wr.alloc o) w.heap.size (unEs 2) 4 28 (.agg #[.func (Fn.func 46) #[] #[]]) (hm2 o) rfl
      have Hm2 : Hid (∀ o, (wr.alloc o).heap[w.heap.size]? = some (.map (unEs 2) 4)) := hm2
      clear hm2
      go_wp2_with fail
      go_roundw
      case rel => exact ⟨3, by omega, rfl, ChangeMaps.heap_setBlock_same (Hm2.out _) _, below_setBlock (Hbel.out.alloc (by omega) _) (Nat.le_refl _) _, by rw [size_setBlock]; simp; omega⟩
      case measure => simp [intOf]
    · have ix : ∀ w, (Instr.index 60 (.agg #[.func (Fn.func 44) #[] #[], .func (Fn.func 45) #[] #[], .func (Fn.func 46) #[] #[], .func (Fn.func 47) #[] #[]]) (.int .i64 3)).run Try.prog w = .ok (.agg #[.func (Fn.func 47) #[] #[]]) w := fun _ => by kernel_rfl
      have hm2 : ∀ o, (wr.alloc o).heap[w.heap.size]? = some (.map (unEs 3) 5) := fun o => (Below.heap_alloc _ _ _ hsz).trans Hm.out
      have up := fun o => run_insert_block (P := Try.prog) 52 2 50 Try.underlying52 Try.underlying2 (wr.alloc o) w.heap.size (unEs 3) 5 29 (.agg #[.func (Fn.func 47) #[] #[]]) (hm2 o) rfl
      have Hm2 : Hid (∀ o, (wr.alloc o).heap[w.heap.size]? = some (.map (unEs 3) 5)) := hm2
      clear hm2
      go_wp2_with fail
      go_roundw
      case rel => exact ⟨4, by omega, rfl, ChangeMaps.heap_setBlock_same (Hm2.out _) _, below_setBlock (Hbel.out.alloc (by omega) _) (Nat.le_refl _) _, by rw [size_setBlock]; simp; omega⟩
      case measure => simp [intOf]
    · go_wp2_with fail
      go_ret
      exact ⟨rfl, Hbel.out, Hm.out, hsz⟩
end Go.Proofs.Ytpcnnagcpckdlaa
