/- What holds of ops of two numbers: plain facts on the function of Bin. -/
import Derived.Test.YtpcnnagcpckdlaaBin
import Derived.Test.YtpcnnagcpckdlaaFits
namespace Go.Proofs.Ytpcnnagcpckdlaa
open Go.RowKit

theorem wrap_in {a : Int} (h0 : -9223372036854775808 ≤ a) (h1 : a ≤ 9223372036854775807) : wrap64 a = a := by unfold wrap64; omega

theorem ar_sub {a b : Int} (h0 : -9223372036854775808 ≤ a) (h1 : a ≤ 9223372036854775807) : binN 10 (binN 11 a b) b = a := by
  rw [binN_11, binN_10]; unfold wrap64; omega

theorem ar_xor {a b : Int} (h0 : -9223372036854775808 ≤ a) (h1 : a ≤ 9223372036854775807) : binN 17 (binN 17 a b) b = a := by
  rw [binN_17, binN_17]; exact xor_twice a b h0 h1

theorem ar_div {a b : Int} (h0 : -9223372036854775808 ≤ a) (h1 : a ≤ 9223372036854775807) (hb : ¬ b = 0) : wrap64 (wrap64 (binN 13 a b * b) + binN 14 a b) = a := by
  rw [binN_13 hb, binN_14 hb]
  have e := Int.tmod_add_mul_tdiv a b
  have k : ∃ t, wrap64 (a.tdiv b) = a.tdiv b + 18446744073709551616 * t := ⟨-((a.tdiv b + 9223372036854775808) / 18446744073709551616), by unfold wrap64; omega⟩
  obtain ⟨t, ht⟩ := k
  rw [ht, Int.add_mul, Int.mul_assoc, Int.mul_comm (a.tdiv b) b]
  generalize b * a.tdiv b = x at *
  generalize t * b = y at *
  unfold wrap64
  omega

theorem ar_rem {a b : Int} (hb : ¬ b = 0) : binN 14 a b = 0 ∨ (0 < binN 14 a b ∧ 0 < a) ∨ (binN 14 a b < 0 ∧ ¬ 0 < a) := by
  rw [binN_14 hb]
  by_cases h : 0 ≤ a
  · have h2 := Int.tmod_nonneg b h
    by_cases h3 : a = 0
    · subst h3; left; simp
    · by_cases h4 : a.tmod b = 0
      · exact .inl h4
      · right; left; omega
  · have h2 : 0 ≤ (-a).tmod b := Int.tmod_nonneg b (by omega)
    rw [Int.neg_tmod] at h2
    by_cases h4 : a.tmod b = 0
    · exact .inl h4
    · right; right; omega

theorem ar_shift {a b : Int} (h : fitsB a (64 - b % 64) = true) : binN 19 (binN 18 a b) b = a := by
  have k := fitsB_impl (n := a) (b := 64 - b % 64) (by omega) (by omega)
  rw [h] at k
  have e : 64 - (64 - b % 64) = b % 64 := by omega
  rw [e] at k
  rw [binN_18, binN_19]
  simpa using k

theorem ar_less (a b : Int) : (a < b ∧ binN 21 a b = 1 ∧ binN 22 a b = 1 ∧ binN 23 a b = 0 ∧ binN 21 b a = 0) ∨ (a = b ∧ binN 21 a b = 0 ∧ binN 22 a b = 1 ∧ binN 23 a b = 1 ∧ binN 21 b a = 0) ∨ (b < a ∧ binN 21 a b = 0 ∧ binN 22 a b = 0 ∧ binN 23 a b = 0 ∧ binN 21 b a = 1) := by
  rw [binN_21, binN_21, binN_22, binN_23]
  by_cases h : a < b
  · left; refine ⟨h, if_pos h, if_pos (by omega), if_neg (by omega), if_neg (by omega)⟩
  · by_cases h2 : a = b
    · right; left; exact ⟨h2, if_neg h, if_pos (by omega), if_pos h2, if_neg (by omega)⟩
    · right; right; exact ⟨by omega, if_neg h, if_neg (by omega), if_neg h2, if_pos (by omega)⟩

theorem binT_not {op : Int} (b : Int) (h1 : ¬ op = 13) (h2 : ¬ op = 14) : binT op b = 0 := by
  unfold binT; rw [if_neg (by omega)]
theorem binT_pos {op b : Int} (h : ¬ b = 0) : binT op b = 0 := by
  unfold binT; rw [if_neg (by omega)]
end Go.Proofs.Ytpcnnagcpckdlaa
