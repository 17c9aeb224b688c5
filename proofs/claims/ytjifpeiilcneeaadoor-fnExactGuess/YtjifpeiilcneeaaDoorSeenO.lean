/- impl.spotOrder. -/
import Derived.Test.YtjifpeiilcneeaaDoorSeenA
namespace Go.Proofs.YtjifpeiilcneeaaDoor
open Go.RowKit

set_option maxHeartbeats 3200000 in
theorem implOrder (a b c d : Int) (w : World) :
    Calls Tryd.prog 26 #[.agg #[.int .i64 a, .int .i64 b], .agg #[.int .i64 c, .int .i64 d]] w fun e w' => e = .returned (.int .i64 (ordS (a, b) (c, d))) ∧ Below w.heap.size w w' := by
  obtain ⟨g0, g1, g2⟩ := third_laid w (.cells #[.int .i64 a, .int .i64 b] 59) (.cells #[.int .i64 c, .int .i64 d] 59) (.int .i64 (cmp64 a c)) (.int .i64 (cmp64 b d)) 3
  have hor := or64 (cmp64 a c) (cmp64 b d) (w.heap.size + 1 + 1) _ g0 g1 g2
  rw [ordS_cmp] at hor
  have Hor : Hid (Calls Tryd.prog 36 #[.slice (some ⟨w.heap.size + 1 + 1, 0, none⟩) 2 2] (((w.alloc (.cells #[.int .i64 a, .int .i64 b] 59)).alloc (.cells #[.int .i64 c, .int .i64 d] 59)).alloc (.cells #[.int .i64 (cmp64 a c), .int .i64 (cmp64 b d)] 3)).drew fun e w' => e = .returned (.int .i64 (ordS (a, b) (c, d))) ∧ w' = (((w.alloc (.cells #[.int .i64 a, .int .i64 b] 59)).alloc (.cells #[.int .i64 c, .int .i64 d] 59)).alloc (.cells #[.int .i64 (cmp64 a c), .int .i64 (cmp64 b d)] 3)).drew) := hor
  have Hbl : Hid (Below w.heap.size w (((w.alloc (.cells #[.int .i64 a, .int .i64 b] 59)).alloc (.cells #[.int .i64 c, .int .i64 d] 59)).alloc (.cells #[.int .i64 (cmp64 a c), .int .i64 (cmp64 b d)] 3)).drew) := ((((Below.refl _ _).alloc (Nat.le_refl _) _).alloc (by simp) _).alloc (by simp; omega) _).drew
  clear g0 g1 g2 hor
  obtain ⟨r, hr⟩ : ∃ r, r = ordS (a, b) (c, d) := ⟨_, rfl⟩
  rw [← hr] at Hor ⊢
  clear hr
  go_enter Tryd.func26, Tryd.ntmps26
  go_wp2_with fail
  go_cut [4] (fun q wc => q = .int .i64 r ∧ Below w.heap.size w wc)
  case first =>
    go_region_held3 (fun w' => w'.cell? ⟨w.heap.size, 0, none⟩ = some (.int .i64 a) ∧ w'.cell? ⟨w.heap.size, 1, none⟩ = some (.int .i64 b) ∧ w'.cell? ⟨w.heap.size + 1, 0, none⟩ = some (.int .i64 c) ∧ w'.cell? ⟨w.heap.size + 1, 1, none⟩ = some (.int .i64 d)) (go_keep) (first
      | (go_at_call 37; refine (compare64 _ _ _).mono ?_; rintro e wP ⟨rfl, hP⟩; subst wP)
      | (go_at_call 36; refine Hor.out.mono ?_; rintro e wQ ⟨rfl, hQ⟩; subst wQ))
    all_goals
      go_wp2_with fail
      go_meet
      exact ⟨rfl, Hbl.out⟩
  case rest =>
    obtain ⟨rfl, hwc⟩ := hcut
    have Hwc : Hid (Below w.heap.size w wc) := hwc
    clear hwc
    go_wp2_with fail
    go_ret
    exact ⟨rfl, Hwc.out⟩
end Go.Proofs.YtjifpeiilcneeaaDoor
