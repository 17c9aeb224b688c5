/- Bitwise ops on int64: the six lowest bits; a bitwise sum taken twice. Sets of slots as numbers: bitwise ops on small int64; masks. impl.slotSet, impl.oneSlot; spec.l08Bit, spec.l08Mask. -/
import Derived.Test.YtljhoplcfoiiiaaDoorRows
import Derived.WalkKit
import Derived.Laws.Bits64
import Derived.Laws.BitsAllLaws
import Derived.Deep.LoopGhost
namespace Go.Proofs.YtljhoplcfoiiiaaDoor
open Go.RowKit
theorem i64_wrap64 (n : Int) : IntKind.i64.wrap n = wrap64 n := by
  simp [IntKind.wrap, IntKind.bits, IntKind.signed]
  unfold wrap64
  omega

theorem bv_toNat (b : Int) : ((BitVec.ofInt 64 b).toNat : Int) = b % 18446744073709551616 := by
  rw [BitVec.toNat_ofInt]
  show (((b % 18446744073709551616).toNat : Nat) : Int) = _
  omega

theorem and63 (b : Int) : bits .and .i64 b 63 = b % 64 := by
  show IntKind.i64.wrap ((BitVec.ofInt 64 b &&& BitVec.ofInt 64 63).toNat : Int) = _
  have h63 : (BitVec.ofInt 64 63).toNat = 63 := by decide
  rw [BitVec.toNat_and, h63, nat_mask6, i64_wrap64]
  have := bv_toNat b
  unfold wrap64
  omega

theorem bv_back (x : BitVec 64) : BitVec.ofInt 64 (wrap64 (x.toNat : Int)) = x := by
  apply BitVec.eq_of_toNat_eq
  have h := bv_toNat (wrap64 (x.toNat : Int))
  have hx := x.isLt
  unfold wrap64 at h
  unfold wrap64
  omega

theorem bv_int (a : Int) (h0 : -9223372036854775808 ≤ a) (h1 : a ≤ 9223372036854775807) : wrap64 ((BitVec.ofInt 64 a).toNat : Int) = a := by
  rw [bv_toNat]; unfold wrap64; omega

theorem xor_twice (a b : Int) (h0 : -9223372036854775808 ≤ a) (h1 : a ≤ 9223372036854775807) : bits .xor .i64 (bits .xor .i64 a b) b = a := by
  show IntKind.i64.wrap ((BitVec.ofInt 64 (IntKind.i64.wrap ((BitVec.ofInt 64 a ^^^ BitVec.ofInt 64 b).toNat : Int)) ^^^ BitVec.ofInt 64 b).toNat : Int) = a
  rw [i64_wrap64, i64_wrap64, bv_back, BitVec.xor_assoc, BitVec.xor_self, BitVec.xor_zero, bv_int a h0 h1]
end Go.Proofs.YtljhoplcfoiiiaaDoor

namespace Go.Proofs.YtljhoplcfoiiiaaDoor
open Go.RowKit

theorem bv_nat (a : Nat) (ha : a < 65536) : (BitVec.ofInt 64 (a : Int)).toNat = a := by
  have := bv_toNat (a : Int)
  omega

theorem wrap_small (n : Nat) (h : n < 9223372036854775808) : IntKind.i64.wrap (n : Int) = n := by
  rw [i64_wrap64]; unfold wrap64; omega

theorem or_lt {a b : Nat} (ha : a < 65536) (hb : b < 65536) : a ||| b < 65536 := Nat.or_lt_two_pow (n := 16) ha hb
theorem and_lt {a b : Nat} (ha : a < 65536) : a &&& b < 65536 := Nat.lt_of_le_of_lt Nat.and_le_left ha

theorem or_i64 (a b : Nat) (ha : a < 65536) (hb : b < 65536) : bits .or .i64 (a : Int) (b : Int) = ((a ||| b : Nat) : Int) := by
  show IntKind.i64.wrap ((BitVec.ofInt 64 (a : Int) ||| BitVec.ofInt 64 (b : Int)).toNat : Int) = _
  rw [BitVec.toNat_or, bv_nat a ha, bv_nat b hb]
  exact wrap_small _ (by have := or_lt ha hb; omega)

theorem and_i64 (a b : Nat) (ha : a < 65536) (hb : b < 65536) : bits .and .i64 (a : Int) (b : Int) = ((a &&& b : Nat) : Int) := by
  show IntKind.i64.wrap ((BitVec.ofInt 64 (a : Int) &&& BitVec.ofInt 64 (b : Int)).toNat : Int) = _
  rw [BitVec.toNat_and, bv_nat a ha, bv_nat b hb]
  exact wrap_small _ (by have := and_lt (b := b) ha; omega)

/-- a without what is in b -/
def clr (a b : Nat) : Nat := a &&& (65535 ^^^ b)

theorem clr_lt {a b : Nat} (ha : a < 65536) : clr a b < 65536 := and_lt ha

theorem small_bit {a : Nat} (ha : a < 65536) {k : Nat} (h : a.testBit k = true) : k < 16 := by
  by_cases hk : k < 16
  · exact hk
  · have h1 : a < 2 ^ k := Nat.lt_of_lt_of_le ha (Nat.pow_le_pow_right (n := 2) (by omega) (by omega : 16 ≤ k))
    rw [Nat.testBit_lt_two_pow h1] at h
    cases h

theorem ones_bit (k : Nat) : (65535 : Nat).testBit k = decide (k < 16) := Nat.testBit_two_pow_sub_one 16 k

theorem clr_bit {a b : Nat} (ha : a < 65536) (k : Nat) : (clr a b).testBit k = (a.testBit k && !b.testBit k) := by
  unfold clr
  rw [Nat.testBit_and, Nat.testBit_xor, ones_bit]
  by_cases h : a.testBit k = true
  · simp [h, small_bit ha h]
  · simp [Bool.not_eq_true] at h
    simp [h]

theorem clr_i64 (a b : Nat) (ha : a < 65536) (hb : b < 65536) : bits .andNot .i64 (a : Int) (b : Int) = ((clr a b : Nat) : Int) := by
  show IntKind.i64.wrap ((BitVec.ofInt 64 (a : Int) &&& ~~~ BitVec.ofInt 64 (b : Int)).toNat : Int) = _
  have e : (BitVec.ofInt 64 (a : Int) &&& ~~~ BitVec.ofInt 64 (b : Int)).toNat = clr a b := by
    apply Nat.eq_of_testBit_eq
    intro k
    rw [clr_bit ha, BitVec.toNat_and, Nat.testBit_and, bv_nat a ha]
    by_cases h : a.testBit k = true
    · have hk := small_bit ha h
      have h2 : (~~~ BitVec.ofInt 64 (b : Int)).toNat.testBit k = !b.testBit k := by
        rw [BitVec.testBit_toNat, BitVec.getLsbD_not, ← BitVec.testBit_toNat, bv_nat b hb]
        simp; omega
      rw [h2]
    · simp [Bool.not_eq_true] at h
      simp [h]
  rw [e]
  exact wrap_small _ (by have := clr_lt (b := b) ha; omega)

/-- the slots from lo to below hi -/
def mask (lo hi : Nat) : Nat := 2 ^ hi - 2 ^ lo

theorem mask_bit {lo hi : Nat} (h : lo ≤ hi) (k : Nat) : (mask lo hi).testBit k = decide (lo ≤ k ∧ k < hi) := by
  have e : mask lo hi = 2 ^ lo * (2 ^ (hi - lo) - 1) := by
    unfold mask
    rw [Nat.mul_sub, ← Nat.pow_add, Nat.mul_one]
    congr 2
    omega
  rw [e, Nat.testBit_two_pow_mul, Nat.testBit_two_pow_sub_one]
  by_cases h1 : lo ≤ k
  · simp [h1]; omega
  · simp [h1]

theorem mask_lt {lo hi : Nat} (h : hi ≤ 16) : mask lo hi < 65536 ∨ hi = 16 ∧ mask lo hi < 65537 := by
  have : 2 ^ hi ≤ 2 ^ 16 := Nat.pow_le_pow_right (by omega) h
  have h2 : 0 < 2 ^ lo := Nat.two_pow_pos lo
  left
  unfold mask
  omega

theorem mask_small {lo hi : Nat} (h : hi ≤ 16) : mask lo hi < 65536 := by
  have : 2 ^ hi ≤ 2 ^ 16 := Nat.pow_le_pow_right (by omega) h
  have h2 : 0 < 2 ^ lo := Nat.two_pow_pos lo
  unfold mask
  omega

theorem mask_none (k : Nat) : mask k k = 0 := by simp [mask]

theorem mask_one (k : Nat) : mask k (k + 1) = 2 ^ k := by
  unfold mask
  rw [Nat.pow_succ]; omega

theorem mask_more {lo k : Nat} (h : lo ≤ k) : mask lo k ||| 2 ^ k = mask lo (k + 1) := by
  apply Nat.eq_of_testBit_eq
  intro j
  rw [Nat.testBit_or, mask_bit h, mask_bit (by omega), Nat.testBit_two_pow]
  by_cases h1 : lo ≤ j ∧ j < k
  · simp [h1]; omega
  · by_cases h2 : k = j
    · subst h2; simp [h]
    · simp [h1, h2]; omega

theorem pow_small {k : Nat} (h : k < 16) : 2 ^ k < 65536 := by
  have : 2 ^ (k + 1) ≤ 2 ^ 16 := Nat.pow_le_pow_right (by omega) (by omega)
  rw [Nat.pow_succ] at this
  have := Nat.two_pow_pos k
  omega

theorem le_of_bits {a b : Nat} (h : ∀ k, a.testBit k = true → b.testBit k = true) : a ≤ b := by
  have : a &&& b = a := by
    apply Nat.eq_of_testBit_eq
    intro k
    rw [Nat.testBit_and]
    by_cases h1 : a.testBit k = true
    · simp [h1, h k h1]
    · simp [Bool.not_eq_true] at h1
      simp [h1]
  rw [← this]
  exact Nat.and_le_right
end Go.Proofs.YtljhoplcfoiiiaaDoor

namespace Go.Proofs.YtljhoplcfoiiiaaDoor
open Go.RowKit

theorem pow_wrap (k : Nat) (hk : k ≤ 17) : IntKind.i64.wrap (2 ^ k) = ((2 ^ k : Nat) : Int) := by
  have : 2 ^ k ≤ 2 ^ 17 := Nat.pow_le_pow_right (by omega) hk
  rw [show ((2 : Int) ^ k) = ((2 ^ k : Nat) : Int) by simp]
  exact wrap_small _ (by omega)

theorem mask64 {lo hi : Nat} (h : lo ≤ hi) (hk : hi ≤ 17) : wrap64 ((2 : Int) ^ hi - 2 ^ lo) = ((mask lo hi : Nat) : Int) := by
  have h1 : 2 ^ hi ≤ 2 ^ 17 := Nat.pow_le_pow_right (by omega) hk
  have h2 : 2 ^ lo ≤ 2 ^ hi := Nat.pow_le_pow_right (by omega) h
  have e1 : ((2 : Int) ^ hi) = ((2 ^ hi : Nat) : Int) := by simp
  have e2 : ((2 : Int) ^ lo) = ((2 ^ lo : Nat) : Int) := by simp
  rw [e1, e2]
  unfold mask wrap64
  generalize 2 ^ hi = x at *
  generalize 2 ^ lo = y at *
  omega

set_option maxHeartbeats 800000 in
theorem implSet (lo hi : Nat) (h : lo ≤ hi) (hk : hi ≤ 16) (w : World) :
    Calls Tryd.prog 69 #[.int .i64 (lo : Int), .int .i64 (hi : Int)] w fun e w' => e = .returned (.int .i64 ((mask lo hi : Nat) : Int)) ∧ w' = w.drew := by
  have e1 := pow_wrap lo (by omega)
  have e2 := pow_wrap hi (by omega)
  have e3 : Hid (wrap64 ((2 : Int) ^ hi - 2 ^ lo) = ((mask lo hi : Nat) : Int)) := mask64 h (by omega)
  go_enter Tryd.func69, Tryd.ntmps69
  go_wp2_with fail
  go_region
  all_goals
    go_wp2_with fail
    go_ret
    exact ⟨congrArg (fun z => Ending.returned (Value.int .i64 z)) e3.out, rfl⟩

set_option maxHeartbeats 800000 in
theorem implOne (k : Nat) (hk : k < 16) (w : World) :
    Calls Tryd.prog 49 #[.int .i64 (k : Int)] w fun e w' => e = .returned (.int .i64 ((2 ^ k : Nat) : Int)) ∧ w' = w.drew := by
  go_enter Tryd.func49, Tryd.ntmps49
  go_wp2_with fail
  refine (implSet k (k + 1) (by omega) (by omega) _).mono ?_
  rintro e w1 ⟨rfl, rfl⟩
  go_wp2_with fail
  go_ret
  exact ⟨by rw [mask_one]; rfl, rfl⟩

set_option maxHeartbeats 800000 in
theorem specBit (k : Nat) (hk : k ≤ 16) (w : World) :
    Calls Tryd.prog 29 #[.int .i64 (k : Int)] w fun e w' => e = .returned (.int .i64 ((2 ^ k : Nat) : Int)) ∧ w' = w := by
  have e1 := pow_wrap k (by omega)
  go_enter Tryd.func29, Tryd.ntmps29
  go_wp2_with fail
  go_ret
  exact ⟨congrArg (fun z => Ending.returned (Value.int .i64 z)) (by simp), rfl⟩

set_option maxHeartbeats 800000 in
theorem specMask (lo hi : Nat) (h : lo ≤ hi) (hk : hi ≤ 16) (w : World) :
    Calls Tryd.prog 43 #[.int .i64 (lo : Int), .int .i64 (hi : Int)] w fun e w' => e = .returned (.int .i64 ((mask lo hi : Nat) : Int)) ∧ w' = w := by
  go_enter Tryd.func43, Tryd.ntmps43
  go_wp2_with fail
  go_loopg [5, 6] hi (fun g x i wr => ∃ k : Nat, lo ≤ k ∧ k ≤ hi ∧ i = .int .i64 k ∧ x = .int .i64 ((mask lo k : Nat) : Int) ∧ hi ≤ k + g ∧ wr = w)
  case atStart => exact ⟨lo, Nat.le_refl _, h, rfl, by rw [mask_none]; rfl, by omega, rfl⟩
  case round =>
    obtain ⟨k, h1, h2, rfl, rfl, h3, rfl⟩ := hrel
    by_cases hlt : k < hi
    · have e1 := or_i64 (mask lo k) (2 ^ k) (mask_small (by omega)) (pow_small (by omega))
      rw [mask_more h1] at e1
      have Hc : Hid (∀ w', Calls Tryd.prog 29 #[.int .i64 (k : Int)] w' fun e w'' => e = .returned (.int .i64 ((2 ^ k : Nat) : Int)) ∧ w'' = w') := fun w' => specBit k (by omega) w'
      obtain ⟨x, Hx⟩ : ∃ x : Nat, Hid (x = 2 ^ k) := ⟨_, rfl⟩
      obtain ⟨y, Hy⟩ : ∃ y : Nat, Hid (y = mask lo k) := ⟨_, rfl⟩
      obtain ⟨z, Hz⟩ : ∃ z : Nat, Hid (z = mask lo (k + 1)) := ⟨_, rfl⟩
      rw [← Hx.out, ← Hy.out, ← Hz.out] at e1
      rw [← Hx.out] at Hc
      rw [← Hy.out]
      go_wp2_with fail
      refine Calls.mono (Hc.out _) ?_
      rintro e w1 ⟨rfl, rfl⟩
      go_wp2_with fail
      go_roundg (gk - 1)
      case measure => omega
      case rel => exact ⟨k + 1, by omega, by omega, by go_num, by rw [← Hz.out], by omega, rfl⟩
    · have hk' : k = hi := by omega
      subst hk'
      go_wp2_with fail
      go_ret
      exact ⟨rfl, rfl⟩
end Go.Proofs.YtljhoplcfoiiiaaDoor
