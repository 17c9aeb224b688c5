/- spec.l07Less. -/
import Derived.Test.YtclcnillnfkjoaaGreatDoorSeenP
namespace Go.Proofs.YtclcnillnfkjoaaGreatDoor
open Go.RowKit

theorem specLess (a b : SnM) (w : World) :
    Calls Tryz.prog 76 #[.agg #[.int .i64 a.func, .int .i64 a.pc, .int .i64 a.went, .int .i64 a.past], .agg #[.int .i64 b.func, .int .i64 b.pc, .int .i64 b.went, .int .i64 b.past]] w fun e w' => e = .returned (.bool (decide (snLess a b))) ∧ Below w.heap.size w w' := by
  obtain ⟨r, Hr⟩ : ∃ r, Hid (r = decide (snLess a b)) := ⟨_, rfl⟩
  rw [← Hr.out]
  obtain ⟨af, ap, aw, aq⟩ := a
  obtain ⟨bf, bp, bw, bq⟩ := b
  have Hb : Hid (∀ o o', Below w.heap.size w ((w.alloc o).alloc o')) := fun o o' => ((Below.refl _ _).alloc (Nat.le_refl _) _).alloc (by simp) _
  by_cases h1 : af < bf
  · go_enter Tryz.func76, Tryz.ntmps76
    go_wp2_with fail
    first | go_quiet (fail) | skip
    go_wp2_with fail
    go_ret
    exact ⟨by rw [Hr.out, decide_eq_true (show snLess _ _ from .inl h1)]; rfl, by first | exact Hb.out _ _ | exact below_drewN (Hb.out _ _) _⟩
  · by_cases h2 : af = bf
    · subst h2
      go_enter Tryz.func76, Tryz.ntmps76
      go_wp2_with fail
      first | go_quiet (fail) | skip
      go_wp2_with fail
      go_ret
      exact ⟨by rw [Hr.out]; simp [snLess], by first | exact Hb.out _ _ | exact below_drewN (Hb.out _ _) _⟩
    · go_enter Tryz.func76, Tryz.ntmps76
      go_wp2_with fail
      first | go_quiet (fail) | skip
      go_wp2_with fail
      go_ret
      have h3 : ¬ snLess ⟨af, ap, aw, aq⟩ ⟨bf, bp, bw, bq⟩ := by unfold snLess; simp only; omega
      exact ⟨by rw [Hr.out, decide_eq_false h3]; rfl, by first | exact Hb.out _ _ | exact below_drewN (Hb.out _ _) _⟩
end Go.Proofs.YtclcnillnfkjoaaGreatDoor
