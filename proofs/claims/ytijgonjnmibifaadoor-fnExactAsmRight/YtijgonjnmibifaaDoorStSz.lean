/- laws.szState and what it calls. -/
import Derived.Test.YtijgonjnmibifaaDoorSt
import Derived.Test.YtijgonjnmibifaaDoorPrgSz
namespace Go.Proofs.YtijgonjnmibifaaDoor
open Go.RowKit

theorem less_less (left : Int) (a b : Nat) (h : 0 ≤ less left a) : less (less left a) b = less left (a + b) := by
  unfold less at h ⊢
  by_cases h1 : (a : Int) ≤ left
  · rw [if_pos h1]
    by_cases h2 : (b : Int) ≤ left - a
    · rw [if_pos h2, if_pos (by omega)]; omega
    · rw [if_neg h2, if_neg (by omega)]
  · rw [if_neg h1] at h; omega
theorem less_neg (left : Int) (a b : Nat) (h : less left a < 0) : less left (a + b) = -1 := by
  unfold less at h ⊢
  by_cases h1 : (a : Int) ≤ left
  · rw [if_pos h1] at h; omega
  · rw [if_neg (by omega)]
theorem less_two (left : Int) (n : Nat) : less left n = -1 ∨ (0 ≤ less left n ∧ less left n ≤ left) := by unfold less; split <;> omega

end Go.Proofs.YtijgonjnmibifaaDoor
