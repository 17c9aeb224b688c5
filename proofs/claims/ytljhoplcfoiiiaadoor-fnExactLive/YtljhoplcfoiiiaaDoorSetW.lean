/- impl.slotSet, impl.oneSlot; spec.l08Bit, spec.l08Mask. -/
import Derived.Test.YtljhoplcfoiiiaaDoorBitP
import Derived.Deep.LoopGhost
namespace Go.Proofs.YtljhoplcfoiiiaaDoor
open Go.RowKit

theorem pow_wrap (k : Nat) (hk : k ≤ 17) : IntKind.i64.wrap (2 ^ k) = ((2 ^ k : Nat) : Int) := by
  have : 2 ^ k ≤ 2 ^ 17 := Nat.pow_le_pow_right (by omega) hk
  rw [show ((2 : Int) ^ k) = ((2 ^ k : Nat) : Int) by simp]
  exact wrap_small _ (by omega)

theorem mask64 {lo hi : Nat} (h : lo ≤ hi) (hk : hi ≤ 17) : wrap64 ((2 : Int) ^ hi - 2 ^ lo) = ((mask lo hi : Nat) : Int) := by
  have h1 : 2 ^ hi ≤ 2 ^ 17 := Nat.pow_le_pow_right (by omega) hk
  have h2 : 2 ^ lo ≤ 2 ^ hi := Nat.pow_le_pow_right (by omega) h
  have e1 : ((2 : Int) ^ hi) = ((2 ^ hi : Nat) : Int) := by simp
  have e2 : ((2 : Int) ^ lo) = ((2 ^ lo : Nat) : Int) := by simp
  rw [e1, e2]
  unfold mask wrap64
  generalize 2 ^ hi = x at *
  generalize 2 ^ lo = y at *
  omega

set_option maxHeartbeats 800000 in
theorem implSet (lo hi : Nat) (h : lo ≤ hi) (hk : hi ≤ 16) (w : World) :
    Calls Tryd.prog 69 #[.int .i64 (lo : Int), .int .i64 (hi : Int)] w fun e w' => e = .returned (.int .i64 ((mask lo hi : Nat) : Int)) ∧ w' = w.drew := by
  have e1 := pow_wrap lo (by omega)
  have e2 := pow_wrap hi (by omega)
  have e3 : Hid (wrap64 ((2 : Int) ^ hi - 2 ^ lo) = ((mask lo hi : Nat) : Int)) := mask64 h (by omega)
  go_enter Tryd.func69, Tryd.ntmps69
  go_wp2_with fail
  go_region
  all_goals
    go_wp2_with fail
    go_ret
    exact ⟨congrArg (fun z => Ending.returned (Value.int .i64 z)) e3.out, rfl⟩

set_option maxHeartbeats 800000 in
theorem implOne (k : Nat) (hk : k < 16) (w : World) :
    Calls Tryd.prog 49 #[.int .i64 (k : Int)] w fun e w' => e = .returned (.int .i64 ((2 ^ k : Nat) : Int)) ∧ w' = w.drew := by
  go_enter Tryd.func49, Tryd.ntmps49
  go_wp2_with fail
  refine (implSet k (k + 1) (by omega) (by omega) _).mono ?_
  rintro e w1 ⟨rfl, rfl⟩
  go_wp2_with fail
  go_ret
  exact ⟨by rw [mask_one]; rfl, rfl⟩

set_option maxHeartbeats 800000 in
theorem specBit (k : Nat) (hk : k ≤ 16) (w : World) :
    Calls Tryd.prog 29 #[.int .i64 (k : Int)] w fun e w' => e = .returned (.int .i64 ((2 ^ k : Nat) : Int)) ∧ w' = w := by
  have e1 := pow_wrap k (by omega)
  go_enter Tryd.func29, Tryd.ntmps29
  go_wp2_with fail
  go_ret
  exact ⟨congrArg (fun z => Ending.returned (Value.int .i64 z)) (by simp), rfl⟩

set_option maxHeartbeats 800000 in
theorem specMask (lo hi : Nat) (h : lo ≤ hi) (hk : hi ≤ 16) (w : World) :
    Calls Tryd.prog 43 #[.int .i64 (lo : Int), .int .i64 (hi : Int)] w fun e w' => e = .returned (.int .i64 ((mask lo hi : Nat) : Int)) ∧ w' = w := by
  go_enter Tryd.func43, Tryd.ntmps43
  go_wp2_with fail
  go_loopg [5, 6] hi (fun g x i wr => ∃ k : Nat, lo ≤ k ∧ k ≤ hi ∧ i = .int .i64 k ∧ x = .int .i64 ((mask lo k : Nat) : Int) ∧ hi ≤ k + g ∧ wr = w)
  case atStart => exact ⟨lo, Nat.le_refl _, h, rfl, by rw [mask_none]; rfl, by omega, rfl⟩
  case round =>
    obtain ⟨k, h1, h2, rfl, rfl, h3, rfl⟩ := hrel
    by_cases hlt : k < hi
    · have e1 := or_i64 (mask lo k) (2 ^ k) (mask_small (by omega)) (pow_small (by omega))
      rw [mask_more h1] at e1
      have Hc : Hid (∀ w', Calls Tryd.prog 29 #[.int .i64 (k : Int)] w' fun e w'' => e = .returned (.int .i64 ((2 ^ k : Nat) : Int)) ∧ w'' = w') := fun w' => specBit k (by omega) w'
      obtain ⟨x, Hx⟩ : ∃ x : Nat, Hid (x = 2 ^ k) := ⟨_, rfl⟩
      obtain ⟨y, Hy⟩ : ∃ y : Nat, Hid (y = mask lo k) := ⟨_, rfl⟩
      obtain ⟨z, Hz⟩ : ∃ z : Nat, Hid (z = mask lo (k + 1)) := ⟨_, rfl⟩
      rw [← Hx.out, ← Hy.out, ← Hz.out] at e1
      rw [← Hx.out] at Hc
      rw [← Hy.out]
      go_wp2_with fail
      refine Calls.mono (Hc.out _) ?_
      rintro e w1 ⟨rfl, rfl⟩
      go_wp2_with fail
      go_roundg (gk - 1)
      case measure => omega
      case rel => exact ⟨k + 1, by omega, by omega, by go_num, by rw [← Hz.out], by omega, rfl⟩
    · have hk' : k = hi := by omega
      subst hk'
      go_wp2_with fail
      go_ret
      exact ⟨rfl, rfl⟩
end Go.Proofs.YtljhoplcfoiiiaaDoor
