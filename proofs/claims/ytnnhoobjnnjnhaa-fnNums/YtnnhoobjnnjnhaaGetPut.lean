/- What was put is got back: over plain lists of bytes. -/
import Derived.Test.YtnnhoobjnnjnhaaGetI
import Derived.Test.YtnnhoobjnnjnhaaPutsS
namespace Go.Proofs.Ytnnhoobjnnjnhaa
open Go.RowKit

theorem unzig_zigzag (n : Int) : unzig ((Lib.zigzag n : Nat) : Int) = n := by
  unfold Lib.zigzag
  by_cases h : 0 ≤ n
  · rw [if_pos h]
    have e : (((2 * n).toNat : Nat) : Int) = 2 * n := by omega
    rw [e]
    unfold unzig
    rw [if_neg (by omega)]
    omega
  · rw [if_neg h]
    have e : (((-2 * n - 1).toNat : Nat) : Int) = -2 * n - 1 := by omega
    rw [e]
    unfold unzig
    rw [if_pos (by omega)]
    omega

theorem toU8 (a : Nat) (h : a < 256) : (a.toUInt8).toNat = a := Lib.toUInt8_toNat h

theorem pow_step (v k : Nat) : v / 128 * 128 ^ (k + 1) + v % 128 * 128 ^ k = v * 128 ^ k := by
  rw [Nat.pow_succ, Nat.mul_comm (128 ^ k) 128, ← Nat.mul_assoc, ← Nat.add_mul]
  congr 1
  omega

/-- k is at most 8 where there is more to come -/
theorem more_k {v k : Nat} (hk : k ≤ 9) (hv : 128 ≤ v) (h : v * 128 ^ k < 18446744073709551616) : k ≤ 8 := by
  by_cases h9 : k = 9
  · subst h9
    have e : (128 : Nat) ^ 9 = 9223372036854775808 := by decide
    rw [e] at h
    omega
  · omega

/-- what was put is got -/
theorem getL_put (v : Nat) : ∀ (k a : Nat) (rest : List UInt8), k ≤ 9 → v * 128 ^ k < 18446744073709551616 → (k = 0 ∨ 0 < v) →
    getL k a (Lib.uvarint v ++ rest) = (0, a + v * 128 ^ k, k + (Lib.uvarint v).length) := by
  induction v using Nat.strongRecOn with
  | _ v ih =>
    intro k a rest hk hv hz
    by_cases h : v < 128
    · rw [Lib.uvarint_small h]
      simp only [List.cons_append, List.nil_append, List.length_singleton]
      rw [getL, toU8 v (by omega)]
      rw [if_neg (by
        rintro ⟨rfl, h1⟩
        have e : (128 : Nat) ^ 9 = 9223372036854775808 := by decide
        rw [e] at hv
        omega), if_pos h, if_neg (by omega)]
    · have hk8 := more_k hk (by omega) hv
      have hp := pow_step v k
      rw [Lib.uvarint_big (by omega)]
      simp only [List.cons_append, List.length_cons]
      rw [getL, toU8 _ (by omega), if_neg (by omega), if_neg (by omega), ih (v / 128) (by omega) (k + 1) _ rest (by omega) (by omega) (.inr (by omega))]
      have em : (v % 128 + 128) % 128 = v % 128 := by omega
      rw [em]
      refine Prod.ext rfl (Prod.ext ?_ ?_)
      · show a + v % 128 * 128 ^ k + v / 128 * 128 ^ (k + 1) = a + v * 128 ^ k
        omega
      · show k + 1 + (Lib.uvarint (v / 128)).length = k + ((Lib.uvarint (v / 128)).length + 1)
        omega

/-- of bytes that end too early nothing is got -/
theorem getL_cut (v : Nat) : ∀ (k a : Nat), k ≤ 9 → v * 128 ^ k < 18446744073709551616 → getL k a ((Lib.uvarint v).take ((Lib.uvarint v).length - 1)) = (4, 0, 0) := by
  induction v using Nat.strongRecOn with
  | _ v ih =>
    intro k a hk hv
    by_cases h : v < 128
    · rw [Lib.uvarint_small h]
      simp [getL]
    · have hk8 := more_k hk (by omega) hv
      have hp := pow_step v k
      have hpos := Lib.uvarint_pos (v / 128)
      rw [Lib.uvarint_big (by omega)]
      simp only [List.length_cons, Nat.add_sub_cancel]
      obtain ⟨m, hm⟩ : ∃ m, (Lib.uvarint (v / 128)).length = m + 1 := ⟨(Lib.uvarint (v / 128)).length - 1, by omega⟩
      have hi := ih (v / 128) (by omega) (k + 1) (a + v % 128 * 128 ^ k) (by omega) (by omega)
      rw [hm] at hi ⊢
      rw [List.take_succ_cons, getL, toU8 _ (by omega), if_neg (by omega), if_neg (by omega)]
      have em : (v % 128 + 128) % 128 = v % 128 := by omega
      rw [em]
      exact hi

theorem getB_put (n : Int) (rest : List UInt8) (h0 : -9223372036854775808 ≤ n) (h1 : n ≤ 9223372036854775807) : getL 0 0 (numB n ++ rest) = (0, Lib.zigzag n, (numB n).length) := by
  have h := getL_put (Lib.zigzag n) 0 0 rest (by omega) (by have := Lib.zigzag_lt h0 h1; simpa using this) (.inl rfl)
  simpa [numB] using h

/-- the thing that is told where a number stands -/
theorem getOut_put (s : ByteArray) (p : Nat) (n : Int) (rest : List UInt8) (hs : s.size ≤ 20000) (h0 : -9223372036854775808 ≤ n) (h1 : n ≤ 9223372036854775807) (hd : s.data.toList.drop p = numB n ++ rest) :
    getOut s (p : Int) = .agg #[.int .i64 n, .int .i64 ((p + (numB n).length : Nat) : Int), .int .i64 0] := by
  unfold getOut
  rw [if_neg (by omega), if_neg (by omega), Int.toNat_natCast, hd, getB_put n rest h0 h1]
  unfold numOut
  rw [if_pos rfl]
  show Value.agg #[.int .i64 (unzig ((Lib.zigzag n : Nat) : Int)), .int .i64 ((p + (numB n).length : Nat) : Int), .int .i64 0] = _
  rw [unzig_zigzag]

theorem getOut_cut (n : Int) (h0 : -9223372036854775808 ≤ n) (h1 : n ≤ 9223372036854775807) :
    getOut ⟨((numB n).take ((numB n).length - 1)).toArray⟩ 0 = .agg #[.int .i64 0, .int .i64 0, .int .i64 4] := by
  have hl := numB_length n h0 h1
  have h := getL_cut (Lib.zigzag n) 0 0 (by omega) (by have := Lib.zigzag_lt h0 h1; simpa using this)
  unfold getOut
  rw [if_neg (by simp [ByteArray.size]; omega), if_neg (by omega)]
  show numOut 0 (getL 0 0 (((numB n).take ((numB n).length - 1)).drop 0)) = _
  rw [List.drop_zero]
  unfold numB
  rw [h]
  rfl
end Go.Proofs.Ytnnhoobjnnjnhaa
