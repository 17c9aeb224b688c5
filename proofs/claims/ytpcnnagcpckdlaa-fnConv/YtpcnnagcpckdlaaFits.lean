/- Whether a number fits: what impl.Fits and spec.Fits answer, as one plain test. -/
import Derived.Test.YtpcnnagcpckdlaaRows
import Derived.WalkKit
import Derived.WalkLawsBesides
import Derived.WalkSpells
import Derived.Laws.Bits64
import Derived.Laws.BitsAllLaws
namespace Go.Proofs.Ytpcnnagcpckdlaa
open Go.RowKit

theorem ret_bool {a b : Bool} (h : a = b) : Ending.returned (.bool a) = .returned (.bool b) := by rw [h]

/-- what both answer -/
def fitsB (n b : Int) : Bool := decide (1 ≤ b ∧ b ≤ 64 ∧ -(2 : Int) ^ (b.toNat - 1) ≤ n ∧ n < 2 ^ (b.toNat - 1))

theorem fits_powers {b : Int} (h1 : 1 ≤ b) (h2 : b ≤ 64) : ∃ p q : Int, (2 : Int) ^ (b.toNat - 1) = p ∧ (2 : Int) ^ (64 - b).toNat = q ∧ p * q = 9223372036854775808 ∧ 0 < p ∧ 0 < q := by
  refine ⟨_, _, rfl, rfl, ?_, Int.pow_pos (by omega), Int.pow_pos (by omega)⟩
  rw [← Int.pow_add]
  have : b.toNat - 1 + (64 - b).toNat = 63 := by omega
  rw [this]; decide

theorem div_eq_iff {n p : Int} (hp : 0 < p) : (n / p = 0 ∨ n / p = -1) ↔ (-p ≤ n ∧ n < p) := by
  have h1 := Int.emod_add_mul_ediv n p
  have h2 := Int.emod_nonneg n (show p ≠ 0 by omega)
  have h3 := Int.emod_lt_of_pos n hp
  constructor
  · rintro (h | h)
    · rw [h] at h1; omega
    · rw [h] at h1; omega
  · rintro ⟨ha, hb⟩
    by_cases h0 : 0 ≤ n
    · left; exact Int.ediv_eq_zero_of_lt h0 hb
    · right
      have : (n + p) / p = 0 := Int.ediv_eq_zero_of_lt (by omega) (by omega)
      rw [Int.add_ediv_of_dvd_right (Int.dvd_refl p), Int.ediv_self (by omega)] at this
      omega

theorem fitsB_spec {n b : Int} (h1 : 1 ≤ b) (h2 : b ≤ 64) : (n / 2 ^ (b.toNat - 1) == 0 || n / 2 ^ (b.toNat - 1) == -1) = fitsB n b := by
  obtain ⟨p, q, hp, hq, hpq, p0, q0⟩ := fits_powers h1 h2
  unfold fitsB
  rw [hp]
  have h := div_eq_iff (n := n) p0
  rw [Bool.eq_iff_iff]
  simp only [Bool.or_eq_true, beq_iff_eq, decide_eq_true_eq]
  rw [h]
  exact ⟨fun k => ⟨h1, h2, k.1, k.2⟩, fun k => ⟨k.2.2.1, k.2.2.2⟩⟩

theorem fitsB_impl {n b : Int} (h1 : 1 ≤ b) (h2 : b ≤ 64) : (wrap64 (n * 2 ^ (64 - b).toNat) / 2 ^ (64 - b).toNat == n) = fitsB n b := by
  obtain ⟨p, q, hp, hq, hpq, p0, q0⟩ := fits_powers h1 h2
  unfold fitsB
  rw [hp, hq]
  have key : ∃ t : Int, wrap64 (n * q) = n * q - 18446744073709551616 * t ∧ -9223372036854775808 ≤ wrap64 (n * q) ∧ wrap64 (n * q) ≤ 9223372036854775807 := by
    generalize n * q = x
    refine ⟨(x + 9223372036854775808) / 18446744073709551616, ?_, ?_, ?_⟩ <;> (unfold wrap64; omega)
  obtain ⟨t, ht, hlo, hhi⟩ := key
  have hdiv : wrap64 (n * q) / q = n - 2 * p * t := by
    rw [ht]
    have : n * q - 18446744073709551616 * t = (n - 2 * p * t) * q := by
      rw [Int.sub_mul]
      have e : 2 * p * t * q = 2 * (p * q) * t := by rw [Int.mul_right_comm, Int.mul_assoc 2 p q]
      rw [e, hpq]
      rfl
    rw [this, Int.mul_ediv_cancel _ (by omega)]
  rw [hdiv, Bool.eq_iff_iff]
  simp only [beq_iff_eq, decide_eq_true_eq]
  have hx : -(p * q) ≤ wrap64 (n * q) ∧ wrap64 (n * q) < p * q := by rw [hpq]; omega
  have hw : wrap64 (n * q) = (n - 2 * p * t) * q := by
    rw [ht, Int.sub_mul]
    have e : 2 * p * t * q = 2 * (p * q) * t := by rw [Int.mul_right_comm, Int.mul_assoc 2 p q]
    rw [e, hpq]
    rfl
  rw [hw] at hx
  have hr : -p ≤ n - 2 * p * t ∧ n - 2 * p * t < p := by
    constructor
    · have : (-p) * q ≤ (n - 2 * p * t) * q := by rw [Int.neg_mul]; exact hx.1
      exact Int.le_of_mul_le_mul_right this q0
    · exact Int.lt_of_mul_lt_mul_right hx.2 (by omega)
  constructor
  · intro he
    rw [he] at hr
    exact ⟨h1, h2, hr.1, hr.2⟩
  · rintro ⟨_, _, ha, hb⟩
    have e : 2 * p * t = p * (2 * t) := by rw [Int.mul_comm 2 p, Int.mul_assoc]
    rw [e] at hr ⊢
    have t0 : 2 * t = 0 := by
      have g1 : p * (2 * t) < p * 2 := by omega
      have g2 : p * (-2) < p * (2 * t) := by omega
      have g3 := Int.lt_of_mul_lt_mul_left g1 (by omega)
      have g4 := Int.lt_of_mul_lt_mul_left g2 (by omega)
      omega
    rw [t0]; omega

theorem fitsB_out {n b : Int} (h : ¬ (1 ≤ b ∧ b ≤ 64)) : fitsB n b = false := by
  unfold fitsB
  exact decide_eq_false (fun k => h ⟨k.1, k.2.1⟩)

set_option maxHeartbeats 400000 in
theorem implFits (n b : Int) (w : World) (_hn : -9223372036854775808 ≤ n) (_hn2 : n ≤ 9223372036854775807) :
    Calls Try.prog 11 #[.int .i64 n, .int .i64 b] w fun e w' => e = .returned (.bool (fitsB n b)) ∧ w' = w := by
  by_cases h1 : 1 ≤ b
  · by_cases h2 : b ≤ 64
    · have Hs : Hid (_ = fitsB n b) := fitsB_impl (n := n) h1 h2
      go_enter Try.func11, Try.ntmps11
      go_wp2
      go_ret
      exact ⟨ret_bool Hs.out, rfl⟩
    · have Hs : Hid (fitsB n b = false) := fitsB_out (by omega)
      go_enter Try.func11, Try.ntmps11
      go_wp2
      go_ret
      exact ⟨ret_bool Hs.out.symm, rfl⟩
  · have Hs : Hid (fitsB n b = false) := fitsB_out (by omega)
    go_enter Try.func11, Try.ntmps11
    go_wp2
    go_ret
    exact ⟨ret_bool Hs.out.symm, rfl⟩

set_option maxHeartbeats 400000 in
theorem specFits (n b : Int) (w : World) (_hn : -9223372036854775808 ≤ n) (_hn2 : n ≤ 9223372036854775807) :
    Calls Try.prog 16 #[.int .i64 n, .int .i64 b] w fun e w' => e = .returned (.bool (fitsB n b)) ∧ w' = w := by
  by_cases h1 : 1 ≤ b
  · by_cases h2 : b ≤ 64
    · have Hs : Hid (_ = fitsB n b) := fitsB_spec (n := n) h1 h2
      go_enter Try.func16, Try.ntmps16
      go_wp2
      · go_ret
        rename_i h0
        exact ⟨ret_bool (by rw [← Hs.out, h0]; rfl), rfl⟩
      · go_ret
        exact ⟨ret_bool Hs.out, rfl⟩
    · have Hs : Hid (fitsB n b = false) := fitsB_out (by omega)
      go_enter Try.func16, Try.ntmps16
      go_wp2
      go_ret
      exact ⟨ret_bool Hs.out.symm, rfl⟩
  · have Hs : Hid (fitsB n b = false) := fitsB_out (by omega)
    go_enter Try.func16, Try.ntmps16
    go_wp2
    go_ret
    exact ⟨ret_bool Hs.out.symm, rfl⟩

theorem lawFits (n b : Int) (w : World) (hn : -9223372036854775808 ≤ n) (hn2 : n ≤ 9223372036854775807) :
    Calls Try.prog 7 #[.int .i64 n, .int .i64 b] w fun e w' => e = .returned (.bool true) ∧ w' = w := by
  go_enter Try.func7, Try.ntmps7
  go_wp2_with fail
  refine (specFits n b _ hn hn2).mono ?_
  rintro e w1 ⟨rfl, h⟩
  subst w1
  go_wp2_with fail
  refine (implFits n b _ hn hn2).mono ?_
  rintro e w2 ⟨rfl, h⟩
  subst w2
  go_wp2_with fail
  go_ret
  exact ⟨rfl, rfl⟩
end Go.Proofs.Ytpcnnagcpckdlaa
