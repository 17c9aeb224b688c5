/- spec.GetNum at every text and place; the law: both answer the same. -/
import Derived.Test.YtnnhoobjnnjnhaaGetS
namespace Go.Proofs.Ytnnhoobjnnjnhaa
open Go.RowKit

set_option maxHeartbeats 800000 in
theorem specGet (s : ByteArray) (at0 : Int) (w : World) (hs : s.size ≤ maxLen) (ha : at0 ≤ 9223372036854775807) :
    Calls Try.prog 19 #[.string s, .int .i64 at0] w fun e w' => e = .returned (getOut s at0) ∧ Below w.heap.size w w' := by
  unfold maxLen at hs
  by_cases hbig : (20000 : Int) < (s.size : Int)
  · have Hg : Hid (getOut s at0 = .agg #[.int .i64 0, .int .i64 0, .int .i64 2]) := by unfold getOut; exact if_pos (by omega)
    go_enter Try.func19, Try.ntmps19
    go_wp2
    exact bodyPost_ret (v := .agg #[.int .i64 0, .int .i64 0, .int .i64 2]) (by simp [results, Try.results19, go_sem]) rfl ⟨by rw [Hg.out], (Below.refl _ _).alloc (Nat.le_refl _) _⟩
  · by_cases hneg : at0 < 0
    · have Hg : Hid (getOut s at0 = .agg #[.int .i64 0, .int .i64 0, .int .i64 1]) := by unfold getOut; rw [if_neg (by omega), if_pos hneg]; rfl
      go_enter Try.func19, Try.ntmps19
      go_wp2
      exact bodyPost_ret (v := .agg #[.int .i64 0, .int .i64 0, .int .i64 1]) (by simp [results, Try.results19, go_sem]) rfl ⟨by rw [Hg.out], (Below.refl _ _).alloc (Nat.le_refl _) _⟩
    · have hg : getOut s at0 = numOut at0.toNat (getL 0 0 (s.data.toList.drop at0.toNat)) := by unfold getOut; rw [if_neg (by omega), if_neg hneg]
      have hc := specRead s at0.toNat w (by omega) (by omega)
      rw [show ((at0.toNat : Nat) : Int) = at0 by omega] at hc
      rw [hg]
      exact hc

set_option maxHeartbeats 800000 in
theorem lawGet (s : ByteArray) (at0 : Int) (w : World) (hs : s.size ≤ maxLen) (ha : at0 ≤ 9223372036854775807) :
    Calls Try.prog 6 #[.string s, .int .i64 at0] w fun e w' => e = .returned (.bool true) ∧ Below w.heap.size w w' := by
  have hs' := hs
  unfold maxLen at hs'
  by_cases hbig : (1048576 : Int) < (s.size : Int)
  · go_enter Try.func6, Try.ntmps6
    go_wp2
    go_ret
    exact ⟨rfl, Below.refl _ _⟩
  · obtain ⟨a, b, c, hv⟩ := getOut_shape s at0
    have H1 : Hid (∀ w, _) := fun w => specGet s at0 w hs ha
    have H2 : Hid (∀ w, _) := fun w => implGet s at0 w hs
    rw [hv] at H1 H2
    clear hv
    go_enter Try.func6, Try.ntmps6
    go_wp2_with fail
    refine (H1.out _).mono ?_
    rintro e w1 ⟨rfl, hb1⟩
    go_wp2_with fail
    refine (H2.out _).mono ?_
    rintro e w2 ⟨rfl, hb2⟩
    obtain ⟨⟨c0, c1, c2⟩, f0, f1, f2⟩ := three_cells hb2
    have hlt : w1.heap.size < w2.heap.size := by have := hb2.size; simp at this; omega
    go_wp2_with fail
    refine (eqSame a b c _).mono ?_
    rintro e w3 ⟨rfl, hb3⟩
    go_wp2_with fail
    go_ret
    refine ⟨rfl, ?_⟩
    have k1 := hb1.size
    have k2 := hb2.size
    refine ((hb1.alloc k1 _).trans (hb2.mono ?_)).trans ?_
    · simp; omega
    · exact ((Below.refl _ _).alloc (by simp at k2; omega) _).trans (hb3.mono (by simp at k2 ⊢; omega))
end Go.Proofs.Ytnnhoobjnnjnhaa
