/- spec.l04Least: the least place that waits. -/
import Derived.Test.YtijgonjnmibifaaGreatDoorHeightR
import Derived.Test.YtijgonjnmibifaaGreatDoorVRow
import Derived.Deep.LoopGhost
import Derived.Deep.CutRange
namespace Go.Proofs.YtijgonjnmibifaaGreatDoor
open Go.RowKit

theorem specLeast (b n cap : Nat) (wt : List Bool) (w : World) (hv : VRow w b (truths wt)) (hl : wt.length = n) (hn : n ≤ 1048576) :
    Calls Tryz.prog 82 #[.slice (some ⟨b, 0, none⟩) n cap] w fun e w' => w' = w ∧ ((e = .returned (.int .i64 (-1)) ∧ ∀ j, wt.getD j false = false) ∨ ∃ k : Nat, e = .returned (.int .i64 k) ∧ IsLeast wt k) := by
  subst hl
  go_enter Tryz.func82, Tryz.ntmps82
  have Hv : Hid (VRow w b (truths wt)) := hv
  clear hv
  go_wp2
  go_loopw [3] (fun i wr => ∃ k : Nat, k ≤ wt.length ∧ i = .int .i64 k ∧ wr = w ∧ ∀ j, j < k → wt.getD j false = false) (fun i _ => wt.length - (intOf i).toNat)
  case atStart => exact ⟨0, Nat.zero_le _, rfl, rfl, fun j h => by omega⟩
  case round =>
    obtain ⟨k, hk, rfl, hw, hb⟩ := hrel
    subst hw
    have Hb : Hid (∀ j, j < k → wt.getD j false = false) := hb
    clear hb
    by_cases hkl : k < wt.length
    · obtain ⟨c0, _⟩ := Hv.out.truth k hkl
      obtain ⟨x, Hx⟩ : ∃ x, Hid (wt.getD k false = x) := ⟨_, rfl⟩
      rw [Hx.out] at c0
      cases x
      · go_wp2_with fail
        go_roundw
        case rel => exact ⟨k + 1, by omega, by go_num, trivial, fun j hj => if e : j = k then by subst e; exact Hx.out else Hb.out j (by omega)⟩
        case measure => simp [intOf]; omega
      · go_wp2_with fail
        go_ret
        exact ⟨rfl, .inr ⟨k, rfl, hkl, Hx.out, Hb.out⟩⟩
    · go_wp2_with fail
      go_ret
      refine ⟨rfl, .inl ⟨rfl, fun j => ?_⟩⟩
      by_cases hj : j < wt.length
      · exact Hb.out j (by omega)
      · simp [List.getD, hj]
end Go.Proofs.YtijgonjnmibifaaGreatDoor
