/- impl.spotOrder. -/
import Derived.Test.YtclcnillnfkjoaaGreatDoorJ7
namespace Go.Proofs.YtclcnillnfkjoaaGreatDoor
open Go.RowKit

set_option maxHeartbeats 3200000 in
theorem implOrderG (a b c d : Int) (w : World) :
    Calls Tryz.prog 81 #[.agg #[.int .i64 a, .int .i64 b], .agg #[.int .i64 c, .int .i64 d]] w fun e w' => e = .returned (.int .i64 (ordS (a, b) (c, d))) ∧ Below w.heap.size w w' ∧ w.drawn ≤ w'.drawn := by
  obtain ⟨g0, g1, g2⟩ := third_laid w (.cells #[.int .i64 a, .int .i64 b] 131) (.cells #[.int .i64 c, .int .i64 d] 131) (.int .i64 (cmp64 a c)) (.int .i64 (cmp64 b d)) 3
  have hor := or64 (cmp64 a c) (cmp64 b d) (w.heap.size + 1 + 1) _ g0 g1 g2
  rw [ordS_cmp] at hor
  have Hor : Hid (Calls Tryz.prog 107 #[.slice (some ⟨w.heap.size + 1 + 1, 0, none⟩) 2 2] (((w.alloc (.cells #[.int .i64 a, .int .i64 b] 131)).alloc (.cells #[.int .i64 c, .int .i64 d] 131)).alloc (.cells #[.int .i64 (cmp64 a c), .int .i64 (cmp64 b d)] 3)).drew fun e w' => e = .returned (.int .i64 (ordS (a, b) (c, d))) ∧ w' = (((w.alloc (.cells #[.int .i64 a, .int .i64 b] 131)).alloc (.cells #[.int .i64 c, .int .i64 d] 131)).alloc (.cells #[.int .i64 (cmp64 a c), .int .i64 (cmp64 b d)] 3)).drew) := hor
  have Hbl : Hid (Below w.heap.size w (((w.alloc (.cells #[.int .i64 a, .int .i64 b] 131)).alloc (.cells #[.int .i64 c, .int .i64 d] 131)).alloc (.cells #[.int .i64 (cmp64 a c), .int .i64 (cmp64 b d)] 3)).drew) := ((((Below.refl _ _).alloc (Nat.le_refl _) _).alloc (by simp) _).alloc (by simp; omega) _).drew
  clear g0 g1 g2 hor
  obtain ⟨r, hr⟩ : ∃ r, r = ordS (a, b) (c, d) := ⟨_, rfl⟩
  rw [← hr] at Hor ⊢
  clear hr
  go_enter Tryz.func81, Tryz.ntmps81
  go_wp2_with fail
  go_cut [4] (fun q wc => q = .int .i64 r ∧ Below w.heap.size w wc ∧ w.drawn ≤ wc.drawn)
  case first =>
    go_region_held3 (fun w' => w'.cell? ⟨w.heap.size, 0, none⟩ = some (.int .i64 a) ∧ w'.cell? ⟨w.heap.size, 1, none⟩ = some (.int .i64 b) ∧ w'.cell? ⟨w.heap.size + 1, 0, none⟩ = some (.int .i64 c) ∧ w'.cell? ⟨w.heap.size + 1, 1, none⟩ = some (.int .i64 d)) (go_keep) (first
      | (go_at_call 108; refine (compare64 _ _ _).mono ?_; rintro e wP ⟨rfl, hP⟩; subst wP)
      | (go_at_call 107; refine Hor.out.mono ?_; rintro e wQ ⟨rfl, hQ⟩; subst wQ))
    all_goals
      go_wp2_with fail
      go_meet
      exact ⟨rfl, Hbl.out, Nat.le_succ _⟩
  case rest =>
    obtain ⟨rfl, hwc⟩ := hcut
    have Hwc : Hid (Below w.heap.size w wc ∧ w.drawn ≤ wc.drawn) := hwc
    clear hwc
    go_wp2_with fail
    go_ret
    exact ⟨rfl, Hwc.out⟩

theorem implOrder (a b c d : Int) (w : World) :
    Calls Tryz.prog 81 #[.agg #[.int .i64 a, .int .i64 b], .agg #[.int .i64 c, .int .i64 d]] w fun e w' => e = .returned (.int .i64 (ordS (a, b) (c, d))) ∧ Below w.heap.size w w' :=
  (implOrderG a b c d w).mono fun _ _ h => ⟨h.1, h.2.1⟩
end Go.Proofs.YtclcnillnfkjoaaGreatDoor
