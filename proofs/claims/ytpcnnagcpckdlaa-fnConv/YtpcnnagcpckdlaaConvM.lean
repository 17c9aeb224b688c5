/- Narrow numbers: plain facts on the function of UnI; two Values compared, and a field of one. -/
import Derived.Test.YtpcnnagcpckdlaaUnI
import Derived.Test.YtpcnnagcpckdlaaFits
import Derived.Laws.StructEq
namespace Go.Proofs.Ytpcnnagcpckdlaa
open Go.RowKit

theorem eqV (a b c d : Int) (w : World) : (Op.equalIn 10000 26 (.agg #[.int .i64 a, .int .i64 b]) (.agg #[.int .i64 c, .int .i64 d])).run Try.prog w = .ok (a == c && b == d) w := by
  have u3 := Try.underlying2
  have a3 := Try.isAgg2
  have z3 := Try.sizeOf2
  have hS : Try.prog.underlying 26 = some (.struct (Try.prog.fieldsOf 26)) := by kernel_rfl
  have hp : Try.prog.stoodInHeld 26 = false := by kernel_rfl
  rw [show (10000 : Nat) = 9999 + 1 from rfl, run_equalIn_agg w 9999 26 _ _ hS hp]
  simp only [Program.fieldsOf, Try.underlying26]
  go_simp
  by_cases h1 : a = c <;> by_cases h2 : b = d <;> simp [h1, h2]
theorem fieldN (n t : Int) (w : World) : (Instr.field 26 (.agg #[.int .i64 n, .int .i64 t]) 0).run Try.prog w = .ok (.int .i64 n) w := by kernel_rfl

theorem i8_wrap (a : Int) : IntKind.i8.wrap a = (a + 128) % 256 - 128 := by
  simp [IntKind.wrap, IntKind.bits, IntKind.signed]; omega
theorem i16_wrap (a : Int) : IntKind.i16.wrap a = (a + 32768) % 65536 - 32768 := by
  simp [IntKind.wrap, IntKind.bits, IntKind.signed]; omega

theorem nar8 (a : Int) : unN 26 a = (a + 128) % 256 - 128 := by rw [unN_26, i8_wrap]; unfold wrap64; omega
theorem nar16 (a : Int) : unN 27 a = (a + 32768) % 65536 - 32768 := by rw [unN_27, i16_wrap]; unfold wrap64; omega
theorem nar32 (a : Int) : unN 28 a = (a + 2147483648) % 4294967296 - 2147483648 := by rw [unN_28]; unfold wrap64 wrap32; omega

theorem and_mask (x : Int) (k : Nat) (hk : k ≤ 62) : bits .and .i64 x (2 ^ k - 1) = x % 2 ^ k := by
  show IntKind.i64.wrap ((BitVec.ofInt 64 x &&& BitVec.ofInt 64 (2 ^ k - 1)).toNat : Int) = _
  have hp : (2 : Int) ^ k ≤ 2 ^ 62 := by
    have := Nat.pow_le_pow_right (show 0 < 2 by omega) hk
    exact_mod_cast this
  have h62 : (2 : Int) ^ 62 = 4611686018427387904 := by decide
  have hp0 : (0 : Int) < 2 ^ k := Int.pow_pos (by omega)
  have hm : (BitVec.ofInt 64 ((2 : Int) ^ k - 1)).toNat = 2 ^ k - 1 := by
    have h := bv_toNat ((2 : Int) ^ k - 1)
    have hc : (((2 : Nat) ^ k : Nat) : Int) = (2 : Int) ^ k := by simp
    have hn : (1 : Nat) ≤ 2 ^ k := Nat.one_le_two_pow
    omega
  rw [BitVec.toNat_and, hm, Nat.and_two_pow_sub_one_eq_mod, i64_wrap]
  have hx := bv_toNat x
  have hc : (((2 : Nat) ^ k : Nat) : Int) = (2 : Int) ^ k := by simp
  have hdvd : (2 : Int) ^ k ∣ 18446744073709551616 := by
    have : (18446744073709551616 : Int) = 2 ^ 64 := by decide
    rw [this]
    exact ⟨2 ^ (64 - k), by rw [← Int.pow_add]; congr 1; omega⟩
  have : (((BitVec.ofInt 64 x).toNat % 2 ^ k : Nat) : Int) = x % 2 ^ k := by
    rw [Int.natCast_emod, hx, hc, Int.emod_emod_of_dvd _ hdvd]
  rw [this]
  have h1 := Int.emod_nonneg x (show (2 : Int) ^ k ≠ 0 by omega)
  have h2 := Int.emod_lt_of_pos x hp0
  unfold wrap64
  omega

theorem facts8 (a : Int) (h0 : -9223372036854775808 ≤ a) (h1 : a ≤ 9223372036854775807) :
    ∃ n, unN 26 a = n ∧ fitsB n 8 = true ∧ fitsB a 8 = (n == a) ∧ unN 26 n = n ∧ bits .and .i64 (wrap64 (a - n)) 255 = 0 ∧ -9223372036854775808 ≤ n ∧ n ≤ 9223372036854775807 := by
  refine ⟨_, rfl, ?_, ?_, ?_, ?_, ?_, ?_⟩
  · rw [nar8]; unfold fitsB; simp; omega
  · rw [nar8]; unfold fitsB; rw [Bool.eq_iff_iff]; simp; omega
  · rw [nar8, nar8]; omega
  · have := and_mask (wrap64 (a - unN 26 a)) 8 (by omega)
    simp at this
    rw [this, nar8]; unfold wrap64; omega
  · rw [nar8]; omega
  · rw [nar8]; omega

theorem facts16 (a : Int) (h0 : -9223372036854775808 ≤ a) (h1 : a ≤ 9223372036854775807) :
    ∃ n, unN 27 a = n ∧ fitsB n 16 = true ∧ fitsB a 16 = (n == a) ∧ unN 27 n = n ∧ bits .and .i64 (wrap64 (a - n)) 65535 = 0 ∧ -9223372036854775808 ≤ n ∧ n ≤ 9223372036854775807 := by
  refine ⟨_, rfl, ?_, ?_, ?_, ?_, ?_, ?_⟩
  · rw [nar16]; unfold fitsB; simp; omega
  · rw [nar16]; unfold fitsB; rw [Bool.eq_iff_iff]; simp; omega
  · rw [nar16, nar16]; omega
  · have := and_mask (wrap64 (a - unN 27 a)) 16 (by omega)
    simp at this
    rw [this, nar16]; unfold wrap64; omega
  · rw [nar16]; omega
  · rw [nar16]; omega

theorem facts32 (a : Int) (h0 : -9223372036854775808 ≤ a) (h1 : a ≤ 9223372036854775807) :
    ∃ n, unN 28 a = n ∧ fitsB n 32 = true ∧ fitsB a 32 = (n == a) ∧ unN 28 n = n ∧ bits .and .i64 (wrap64 (a - n)) 4294967295 = 0 ∧ -9223372036854775808 ≤ n ∧ n ≤ 9223372036854775807 := by
  refine ⟨_, rfl, ?_, ?_, ?_, ?_, ?_, ?_⟩
  · rw [nar32]; unfold fitsB; simp; omega
  · rw [nar32]; unfold fitsB; rw [Bool.eq_iff_iff]; simp; omega
  · rw [nar32, nar32]; omega
  · have := and_mask (wrap64 (a - unN 28 a)) 32 (by omega)
    simp at this
    rw [this, nar32]; unfold wrap64; omega
  · rw [nar32]; omega
  · rw [nar32]; omega

theorem factsW (a : Int) : ∃ n, unN 29 a = n ∧ 0 ≤ n ∧ n < 4294967296 ∧ bits .and .i64 (wrap64 (a - n)) 4294967295 = 0 := by
  refine ⟨_, rfl, ?_, ?_, ?_⟩
  · rw [unN_29]; omega
  · rw [unN_29]; omega
  · have := and_mask (wrap64 (a - unN 29 a)) 32 (by omega)
    simp at this
    rw [this, unN_29]; unfold wrap64; omega

theorem factsNot (a : Int) : ∃ x y : Int, unN 25 a = x ∧ unN 24 a = y ∧ wrap64 (x + 1) = y := by
  refine ⟨_, _, rfl, rfl, ?_⟩
  have h : unN 25 a = wrap64 ((18446744073709551615 - (BitVec.ofInt 64 a).toNat : Nat) : Int) := by
    rw [unN_25]
    show IntKind.i64.wrap ((BitVec.ofInt 64 (-1) ^^^ BitVec.ofInt 64 a).toNat : Int) = _
    have : BitVec.ofInt 64 (-1) = BitVec.allOnes 64 := by decide
    rw [this, BitVec.allOnes_xor, BitVec.toNat_not, i64_wrap]
  have hb := bv_toNat a
  have hl := (BitVec.ofInt 64 a).isLt
  rw [h, unN_24]
  unfold wrap64
  omega
end Go.Proofs.Ytpcnnagcpckdlaa
