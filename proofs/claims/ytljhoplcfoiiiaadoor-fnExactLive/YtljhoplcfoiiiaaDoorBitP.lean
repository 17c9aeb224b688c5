/- Sets of slots as numbers: bitwise ops on small int64; masks. -/
import Derived.Test.YtljhoplcfoiiiaaDoorBits
namespace Go.Proofs.YtljhoplcfoiiiaaDoor
open Go.RowKit

theorem bv_nat (a : Nat) (ha : a < 65536) : (BitVec.ofInt 64 (a : Int)).toNat = a := by
  have := bv_toNat (a : Int)
  omega

theorem wrap_small (n : Nat) (h : n < 9223372036854775808) : IntKind.i64.wrap (n : Int) = n := by
  rw [i64_wrap]; unfold wrap64; omega

theorem or_lt {a b : Nat} (ha : a < 65536) (hb : b < 65536) : a ||| b < 65536 := Nat.or_lt_two_pow (n := 16) ha hb
theorem and_lt {a b : Nat} (ha : a < 65536) : a &&& b < 65536 := Nat.lt_of_le_of_lt Nat.and_le_left ha

theorem or_i64 (a b : Nat) (ha : a < 65536) (hb : b < 65536) : bits .or .i64 (a : Int) (b : Int) = ((a ||| b : Nat) : Int) := by
  show IntKind.i64.wrap ((BitVec.ofInt 64 (a : Int) ||| BitVec.ofInt 64 (b : Int)).toNat : Int) = _
  rw [BitVec.toNat_or, bv_nat a ha, bv_nat b hb]
  exact wrap_small _ (by have := or_lt ha hb; omega)

theorem and_i64 (a b : Nat) (ha : a < 65536) (hb : b < 65536) : bits .and .i64 (a : Int) (b : Int) = ((a &&& b : Nat) : Int) := by
  show IntKind.i64.wrap ((BitVec.ofInt 64 (a : Int) &&& BitVec.ofInt 64 (b : Int)).toNat : Int) = _
  rw [BitVec.toNat_and, bv_nat a ha, bv_nat b hb]
  exact wrap_small _ (by have := and_lt (b := b) ha; omega)

/-- a without what is in b -/
def clr (a b : Nat) : Nat := a &&& (65535 ^^^ b)

theorem clr_lt {a b : Nat} (ha : a < 65536) : clr a b < 65536 := and_lt ha

theorem small_bit {a : Nat} (ha : a < 65536) {k : Nat} (h : a.testBit k = true) : k < 16 := by
  by_cases hk : k < 16
  · exact hk
  · have h1 : a < 2 ^ k := Nat.lt_of_lt_of_le ha (Nat.pow_le_pow_right (n := 2) (by omega) (by omega : 16 ≤ k))
    rw [Nat.testBit_lt_two_pow h1] at h
    cases h

theorem ones_bit (k : Nat) : (65535 : Nat).testBit k = decide (k < 16) := Nat.testBit_two_pow_sub_one 16 k

theorem clr_bit {a b : Nat} (ha : a < 65536) (k : Nat) : (clr a b).testBit k = (a.testBit k && !b.testBit k) := by
  unfold clr
  rw [Nat.testBit_and, Nat.testBit_xor, ones_bit]
  by_cases h : a.testBit k = true
  · simp [h, small_bit ha h]
  · simp [Bool.not_eq_true] at h
    simp [h]

theorem clr_i64 (a b : Nat) (ha : a < 65536) (hb : b < 65536) : bits .andNot .i64 (a : Int) (b : Int) = ((clr a b : Nat) : Int) := by
  show IntKind.i64.wrap ((BitVec.ofInt 64 (a : Int) &&& ~~~ BitVec.ofInt 64 (b : Int)).toNat : Int) = _
  have e : (BitVec.ofInt 64 (a : Int) &&& ~~~ BitVec.ofInt 64 (b : Int)).toNat = clr a b := by
    apply Nat.eq_of_testBit_eq
    intro k
    rw [clr_bit ha, BitVec.toNat_and, Nat.testBit_and, bv_nat a ha]
    by_cases h : a.testBit k = true
    · have hk := small_bit ha h
      have h2 : (~~~ BitVec.ofInt 64 (b : Int)).toNat.testBit k = !b.testBit k := by
        rw [BitVec.testBit_toNat, BitVec.getLsbD_not, ← BitVec.testBit_toNat, bv_nat b hb]
        simp; omega
      rw [h2]
    · simp [Bool.not_eq_true] at h
      simp [h]
  rw [e]
  exact wrap_small _ (by have := clr_lt (b := b) ha; omega)

/-- the slots from lo to below hi -/
def mask (lo hi : Nat) : Nat := 2 ^ hi - 2 ^ lo

theorem mask_bit {lo hi : Nat} (h : lo ≤ hi) (k : Nat) : (mask lo hi).testBit k = decide (lo ≤ k ∧ k < hi) := by
  have e : mask lo hi = 2 ^ lo * (2 ^ (hi - lo) - 1) := by
    unfold mask
    rw [Nat.mul_sub, ← Nat.pow_add, Nat.mul_one]
    congr 2
    omega
  rw [e, Nat.testBit_two_pow_mul, Nat.testBit_two_pow_sub_one]
  by_cases h1 : lo ≤ k
  · simp [h1]; omega
  · simp [h1]

theorem mask_lt {lo hi : Nat} (h : hi ≤ 16) : mask lo hi < 65536 ∨ hi = 16 ∧ mask lo hi < 65537 := by
  have : 2 ^ hi ≤ 2 ^ 16 := Nat.pow_le_pow_right (by omega) h
  have h2 : 0 < 2 ^ lo := Nat.two_pow_pos lo
  left
  unfold mask
  omega

theorem mask_small {lo hi : Nat} (h : hi ≤ 16) : mask lo hi < 65536 := by
  have : 2 ^ hi ≤ 2 ^ 16 := Nat.pow_le_pow_right (by omega) h
  have h2 : 0 < 2 ^ lo := Nat.two_pow_pos lo
  unfold mask
  omega

theorem mask_none (k : Nat) : mask k k = 0 := by simp [mask]

theorem mask_one (k : Nat) : mask k (k + 1) = 2 ^ k := by
  unfold mask
  rw [Nat.pow_succ]; omega

theorem mask_more {lo k : Nat} (h : lo ≤ k) : mask lo k ||| 2 ^ k = mask lo (k + 1) := by
  apply Nat.eq_of_testBit_eq
  intro j
  rw [Nat.testBit_or, mask_bit h, mask_bit (by omega), Nat.testBit_two_pow]
  by_cases h1 : lo ≤ j ∧ j < k
  · simp [h1]; omega
  · by_cases h2 : k = j
    · subst h2; simp [h]
    · simp [h1, h2]; omega

theorem pow_small {k : Nat} (h : k < 16) : 2 ^ k < 65536 := by
  have : 2 ^ (k + 1) ≤ 2 ^ 16 := Nat.pow_le_pow_right (by omega) (by omega)
  rw [Nat.pow_succ] at this
  have := Nat.two_pow_pos k
  omega

theorem le_of_bits {a b : Nat} (h : ∀ k, a.testBit k = true → b.testBit k = true) : a ≤ b := by
  have : a &&& b = a := by
    apply Nat.eq_of_testBit_eq
    intro k
    rw [Nat.testBit_and]
    by_cases h1 : a.testBit k = true
    · simp [h1, h k h1]
    · simp [Bool.not_eq_true] at h1
      simp [h1]
  rw [← this]
  exact Nat.and_le_right
end Go.Proofs.YtljhoplcfoiiiaaDoor
