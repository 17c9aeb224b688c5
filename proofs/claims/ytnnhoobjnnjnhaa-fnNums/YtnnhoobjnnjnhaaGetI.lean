/- What impl.GetNum answers, and that eqNumOut tells two of them apart or the same. -/
import Derived.Test.YtnnhoobjnnjnhaaRead
namespace Go.Proofs.Ytnnhoobjnnjnhaa
open Go.RowKit

/-- the answer of both, at any text and place -/
def getOut (s : ByteArray) (at0 : Int) : Value :=
  if 20000 < s.size then .agg #[.int .i64 0, .int .i64 0, .int .i64 2] else if at0 < 0 then .agg #[.int .i64 0, .int .i64 0, .int .i64 1] else numOut at0.toNat (getL 0 0 (s.data.toList.drop at0.toNat))

theorem numOut_shape (p : Nat) (r : Nat × Nat × Nat) : ∃ a b c : Int, numOut p r = .agg #[.int .i64 a, .int .i64 b, .int .i64 c] := by
  unfold numOut
  split
  · exact ⟨_, _, _, rfl⟩
  · exact ⟨_, _, _, rfl⟩

theorem getOut_shape (s : ByteArray) (at0 : Int) : ∃ a b c : Int, getOut s at0 = .agg #[.int .i64 a, .int .i64 b, .int .i64 c] := by
  unfold getOut
  split
  · exact ⟨_, _, _, rfl⟩
  · split
    · exact ⟨_, _, _, rfl⟩
    · exact numOut_shape _ _

/-- a block of three cells that the call has laid, behind a callee -/
theorem three_cells {w w1 : World} {v0 v1 v2 : Value} {t : TypeId} (hb : Below (w.alloc (.cells #[v0, v1, v2] t)).heap.size (w.alloc (.cells #[v0, v1, v2] t)) w1) :
    (w1.cell? ⟨w.heap.size, 0, none⟩ = some v0 ∧ w1.cell? ⟨w.heap.size, 1, none⟩ = some v1 ∧ w1.cell? ⟨w.heap.size, 2, none⟩ = some v2) ∧
    (w1.frozen? ⟨w.heap.size, 0, none⟩ = false ∧ w1.frozen? ⟨w.heap.size, 1, none⟩ = false ∧ w1.frozen? ⟨w.heap.size, 2, none⟩ = false) := by
  refine ⟨⟨?_, ?_, ?_⟩, ?_, ?_, ?_⟩
  · rw [hb.cell (by simp)]; simp
  · rw [hb.cell (by simp)]; simp
  · rw [hb.cell (by simp)]; simp
  · rw [hb.frozen (by simp)]; simp
  · rw [hb.frozen (by simp)]; simp
  · rw [hb.frozen (by simp)]; simp

set_option maxHeartbeats 800000 in
theorem implGet (s : ByteArray) (at0 : Int) (w : World) (hs : s.size ≤ maxLen) :
    Calls Try.prog 12 #[.string s, .int .i64 at0] w fun e w' => e = .returned (getOut s at0) ∧ Below w.heap.size w w' := by
  unfold maxLen at hs
  by_cases hbig : (20000 : Int) < (s.size : Int)
  · have Hg : Hid (getOut s at0 = .agg #[.int .i64 0, .int .i64 0, .int .i64 2]) := by unfold getOut; exact if_pos (by omega)
    go_enter Try.func12, Try.ntmps12
    go_wp2
    exact bodyPost_ret (v := .agg #[.int .i64 0, .int .i64 0, .int .i64 2]) (by simp [results, Try.results12, go_sem]) rfl ⟨by rw [Hg.out], (Below.refl _ _).alloc (Nat.le_refl _) _⟩
  · by_cases hneg : at0 < 0
    · have Hg : Hid (getOut s at0 = .agg #[.int .i64 0, .int .i64 0, .int .i64 1]) := by unfold getOut; rw [if_neg (by omega), if_pos hneg]; rfl
      go_enter Try.func12, Try.ntmps12
      go_wp2
      exact bodyPost_ret (v := .agg #[.int .i64 0, .int .i64 0, .int .i64 1]) (by simp [results, Try.results12, go_sem]) rfl ⟨by rw [Hg.out], (Below.refl _ _).alloc (Nat.le_refl _) _⟩
    · have Hg : Hid (getOut s at0 = numOut at0.toNat (getL 0 0 (s.data.toList.drop at0.toNat))) := by unfold getOut; rw [if_neg (by omega), if_neg hneg]; rfl
      have hc := implRead s at0.toNat
      rw [show ((at0.toNat : Nat) : Int) = at0 by omega] at hc
      have hc' := fun w => hc w (by omega)
      obtain ⟨a, b, c, hv⟩ := numOut_shape at0.toNat (getL 0 0 (s.data.toList.drop at0.toNat))
      rw [hv] at hc' Hg
      have Hc : Hid (∀ w, _) := hc'
      clear hc hc' hv
      go_enter Try.func12, Try.ntmps12
      go_wp2_with fail
      refine (Hc.out _).mono ?_
      rintro e w1 ⟨rfl, hb1⟩
      obtain ⟨⟨c0, c1, c2⟩, f0, f1, f2⟩ := three_cells hb1
      go_wp2
      refine bodyPost_ret (v := .agg #[.int .i64 a, .int .i64 b, .int .i64 c]) (by simp [results, Try.results12, go_sem, c0, c1, c2]) rfl ⟨by rw [Hg.out], ?_⟩
      exact (((((Below.refl _ _).alloc (Nat.le_refl _) _).trans (hb1.mono (by simp))).setCell (by simp) _).setCell (by simp) _).setCell (by simp) _

set_option maxHeartbeats 800000 in
theorem eqSame (a b c : Int) (w : World) :
    Calls Try.prog 20 #[.agg #[.int .i64 a, .int .i64 b, .int .i64 c], .agg #[.int .i64 a, .int .i64 b, .int .i64 c]] w fun e w' => e = .returned (.bool true) ∧ Below w.heap.size w w' := by
  go_enter Try.func20, Try.ntmps20
  go_wp2
  go_ret
  exact ⟨rfl, ((Below.refl _ _).alloc (Nat.le_refl _) _).alloc (by simp) _⟩
end Go.Proofs.Ytnnhoobjnnjnhaa
