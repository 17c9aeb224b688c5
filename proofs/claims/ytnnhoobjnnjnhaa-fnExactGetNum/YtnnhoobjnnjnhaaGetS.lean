/- What spec.GetNum answers; so both answer the same. -/
import Derived.Test.YtnnhoobjnnjnhaaGetI
namespace Go.Proofs.Ytnnhoobjnnjnhaa
open Go.RowKit

/-- one byte more, added -/
theorem add_step (x : Int) (c k : Nat) (hk : k ≤ 8) (hx0 : 0 ≤ x) (hx : x.toNat < 128 ^ k) :
    IntKind.u64.wrap (x + IntKind.u64.wrap ((c : Int) % 128 * 2 ^ (7 * k))) = ((x.toNat + c % 128 * 128 ^ k : Nat) : Int) ∧ x.toNat + c % 128 * 128 ^ k < 128 ^ (k + 1) := by
  have hm1 : c % 128 < 128 := by omega
  have hm : (c : Int) % 128 = ((c % 128 : Nat) : Int) := by omega
  generalize c % 128 = m at hm hm1
  obtain ⟨y, rfl⟩ := Int.eq_ofNat_of_zero_le hx0
  have e128 : (128 : Nat) ^ k = 2 ^ (7 * k) := by rw [Nat.pow_mul]
  have hpk : 2 ^ (7 * k) ≤ 2 ^ 56 := Nat.pow_le_pow_right (by decide) (by omega)
  have hmk : m * 2 ^ (7 * k) ≤ 127 * 2 ^ (7 * k) := Nat.mul_le_mul_right _ (by omega)
  simp only [Int.toNat_natCast] at hx ⊢
  rw [hm, Nat.pow_succ, e128]
  rw [e128] at hx
  clear e128
  have hlt : y + m * 2 ^ (7 * k) < 2 ^ (7 * k) * 128 := by omega
  refine ⟨?_, hlt⟩
  have e2 : (m : Int) * 2 ^ (7 * k) = ((m * 2 ^ (7 * k) : Nat) : Int) := by push_cast; rfl
  have e3 : IntKind.u64.wrap ((m * 2 ^ (7 * k) : Nat) : Int) = ((m * 2 ^ (7 * k) : Nat) : Int) := by rw [IntKind.wrap_u64]; omega
  rw [e2, e3, IntKind.wrap_u64]
  omega

/-- the tenth byte -/
theorem add_last (x : Int) (m : Nat) (hx0 : 0 ≤ x) (hx : x.toNat < 128 ^ 9) (h1 : m ≤ 1) :
    IntKind.u64.wrap (x + (m : Int) % 128 * 9223372036854775808) = ((x.toNat + m * 128 ^ 9 : Nat) : Int) ∧ x.toNat + m * 128 ^ 9 < 18446744073709551616 := by
  obtain ⟨y, rfl⟩ := Int.eq_ofNat_of_zero_le hx0
  have e9 : (128 : Nat) ^ 9 = 9223372036854775808 := by decide
  simp only [Int.toNat_natCast] at hx ⊢
  rw [e9] at *
  refine ⟨?_, by omega⟩
  rw [IntKind.wrap_u64]
  omega

theorem unzig_odd {x : Int} (h : x % 2 = 1) : -(x / 2) - 1 = unzig x := by unfold unzig; rw [if_pos h]
theorem unzig_even {x : Int} (h : ¬ x % 2 = 1) : x / 2 = unzig x := by unfold unzig; rw [if_neg h]

/-- what is told at the end, as the cells have it -/
theorem fin4 {g : Nat × Nat × Nat} {k p0 : Nat} {X N : Int} (h0 : 0 ≤ X) (hg : g = (0, X.toNat, k + 1)) (hN : N = unzig X) :
    Ending.returned (.agg #[.int .i64 N, .int .i64 ((p0 : Int) + (k : Int) + 1), .int .i64 0]) = .returned (numOut p0 g) := by
  subst hN
  exact fin3 (p := p0 + k + 1) h0 hg rfl

set_option maxRecDepth 100000 in
set_option maxHeartbeats 1600000 in
theorem specRead (s : ByteArray) (p0 : Nat) (w : World) (hs : s.size ≤ 20000) (hp0 : (p0 : Int) ≤ 9223372036854775807) :
    Calls Try.prog 19 #[.string s, .int .i64 (p0 : Int)] w fun e w' => e = .returned (numOut p0 (getL 0 0 (s.data.toList.drop p0))) ∧ Below w.heap.size w w' := by
  have hs1 : ¬ (20000 : Int) < (s.size : Int) := by omega
  go_enter Try.func19, Try.ntmps19
  go_wp2
  go_loop [5, 6] (fun u i => ∃ (k : Nat) (x : Int), k ≤ 9 ∧ i = .int .i64 k ∧ u = .int .u64 x ∧ 0 ≤ x ∧ Hid (x.toNat < 128 ^ k) ∧ Hid (getL 0 0 (s.data.toList.drop p0) = getL k x.toNat (s.data.toList.drop (p0 + k)))) (fun _ i => 10 - (intOf i).toNat)
  case atStart => exact ⟨0, 0, by omega, rfl, rfl, by omega, (by decide : (0 : Nat) < 1), rfl⟩
  case round =>
    obtain ⟨k, x, hk, rfl, rfl, hx0, Hxk, hget⟩ := hrel
    by_cases hps : (p0 : Int) < (s.size : Int) - (k : Int)
    · have hps' : p0 + k < s.size := by omega
      have hget2 : Hid (_ = _) := hget.out.trans (by rw [drop_cons s (p0 + k) hps', getL])
      clear hget
      have hb1 : (s[p0 + k].toNat : Int) < 256 := by have := s[p0 + k].toNat_lt; omega
      by_cases hk9 : k = 9
      · subst hk9
        by_cases hB : (1 : Int) < (s[p0 + 9].toNat : Int)
        · have Hg : Hid (getL 0 0 (s.data.toList.drop p0) = (3, 0, 0)) := hget2.out.trans (by rw [if_pos ⟨rfl, by omega⟩])
          clear hget2
          go_wp2
          exact bodyPost_ret (v := .agg #[.int .i64 0, .int .i64 0, .int .i64 3]) (by simp [results, Try.results19, go_sem]) rfl ⟨by rw [Hg.out]; rfl, (Below.refl _ _).alloc (Nat.le_refl _) _⟩
        · by_cases hz : (s[p0 + 9].toNat : Int) = 0
          · have Hg : Hid (getL 0 0 (s.data.toList.drop p0) = (3, 0, 0)) := hget2.out.trans (by rw [if_neg (by omega), if_pos (by omega), if_pos ⟨by omega, by omega⟩])
            have hzz : ((s[p0 + 9].toNat : Int) == 0) = true := by simpa using hz
            clear hget2 hz
            go_wp2
            exact bodyPost_ret (v := .agg #[.int .i64 0, .int .i64 0, .int .i64 3]) (by simp [results, Try.results19, go_sem]) rfl ⟨by rw [Hg.out]; rfl, (Below.refl _ _).alloc (Nat.le_refl _) _⟩
          · obtain ⟨hu1, hu2⟩ := add_last x s[p0 + 9].toNat hx0 Hxk.out (by omega)
            generalize hX : ((x.toNat + s[p0 + 9].toNat * 128 ^ 9 : Nat) : Int) = X at hu1
            have hX0 : 0 ≤ X := by omega
            have hX1 : X < 18446744073709551616 := by omega
            have Hg : Hid (getL 0 0 (s.data.toList.drop p0) = (0, X.toNat, 9 + 1)) := hget2.out.trans (by rw [if_neg (by omega), if_pos (by omega), if_neg (by omega), ← hX, Int.toNat_natCast])
            have hzz : ((s[p0 + 9].toNat : Int) == 0) = false := by simpa using hz
            clear hget2 hz hX hu2
            by_cases hodd : X % 2 = 1
            · go_wp2
              exact bodyPost_ret (v := .agg #[.int .i64 (-(X / 2) - 1), .int .i64 ((p0 : Int) + 9 + 1), .int .i64 0]) (by simp [results, Try.results19, go_sem]) rfl ⟨fin4 hX0 Hg.out (unzig_odd hodd), (Below.refl _ _).alloc (Nat.le_refl _) _⟩
            · have hev : X % 2 = 0 := by omega
              have Ho : Hid (¬ X % 2 = 1) := hodd
              clear hodd
              go_wp2
              exact bodyPost_ret (v := .agg #[.int .i64 (X / 2), .int .i64 ((p0 : Int) + 9 + 1), .int .i64 0]) (by simp [results, Try.results19, go_sem]) rfl ⟨fin4 hX0 Hg.out (unzig_even Ho.out), (Below.refl _ _).alloc (Nat.le_refl _) _⟩
      · have hkk : ((k : Int) == 9) = false := by simp; omega
        by_cases hc : (s[p0 + k].toNat : Int) < 128
        · by_cases hz : (s[p0 + k].toNat : Int) = 0 ∧ 0 < k
          · have Hg : Hid (getL 0 0 (s.data.toList.drop p0) = (3, 0, 0)) := hget2.out.trans (by rw [if_neg (by omega), if_pos (by omega), if_pos ⟨by omega, by omega⟩])
            have hzz : ((s[p0 + k].toNat : Int) == 0) = true := by simpa using hz.1
            have hk0 : (0 : Int) < (k : Int) := by omega
            clear hget2 hz
            go_wp2
            exact bodyPost_ret (v := .agg #[.int .i64 0, .int .i64 0, .int .i64 3]) (by simp [results, Try.results19, go_sem]) rfl ⟨by rw [Hg.out]; rfl, (Below.refl _ _).alloc (Nat.le_refl _) _⟩
          · obtain ⟨hu1, hu2⟩ := add_step x s[p0 + k].toNat k (by omega) hx0 Hxk.out
            have hle : 128 ^ (k + 1) ≤ 128 ^ 9 := Nat.pow_le_pow_right (by decide) (by omega)
            generalize hX : ((x.toNat + s[p0 + k].toNat % 128 * 128 ^ k : Nat) : Int) = X at hu1
            have em : s[p0 + k].toNat % 128 = s[p0 + k].toNat := by omega
            have hX0 : 0 ≤ X := by omega
            have hX1 : X < 18446744073709551616 := by omega
            have Hg : Hid (getL 0 0 (s.data.toList.drop p0) = (0, X.toNat, k + 1)) := hget2.out.trans (by rw [if_neg (by omega), if_pos (by omega), if_neg (by omega), ← hX, Int.toNat_natCast, em])
            clear hget2 hX hu2 hle em
            by_cases hz0 : (s[p0 + k].toNat : Int) = 0
            · obtain rfl : k = 0 := by omega
              obtain rfl : x = 0 := by have := Hxk.out; simp at this; omega
              have hz1 : (s[p0].toNat : Int) = 0 := hz0
              have hX2 : X = 0 := by rw [← hu1]; have e : (s[p0 + 0].toNat : Int) = 0 := hz0; rw [e]; decide
              subst hX2
              have hps2 : p0 < s.size := by omega
              clear hz hz0 hu1 hb1 hc hkk hk9 hX0 hX1 Hxk
              go_wp2
              exact bodyPost_ret (v := .agg #[.int .i64 0, .int .i64 ((p0 : Int) + 1), .int .i64 0]) (by simp [results, Try.results19, go_sem]) rfl ⟨fin3 (k := 0) (p := p0 + 1) (x := 0) (by omega) Hg.out rfl, (Below.refl _ _).alloc (Nat.le_refl _) _⟩
            · have hzz : ((s[p0 + k].toNat : Int) == 0) = false := by simpa using hz0
              clear hz hz0
              by_cases hodd : X % 2 = 1
              · go_wp2
                exact bodyPost_ret (v := .agg #[.int .i64 (-(X / 2) - 1), .int .i64 ((p0 : Int) + (k : Int) + 1), .int .i64 0]) (by simp [results, Try.results19, go_sem]) rfl ⟨fin4 hX0 Hg.out (unzig_odd hodd), (Below.refl _ _).alloc (Nat.le_refl _) _⟩
              · have hev : X % 2 = 0 := by omega
                have Ho : Hid (¬ X % 2 = 1) := hodd
                clear hodd
                go_wp2
                exact bodyPost_ret (v := .agg #[.int .i64 (X / 2), .int .i64 ((p0 : Int) + (k : Int) + 1), .int .i64 0]) (by simp [results, Try.results19, go_sem]) rfl ⟨fin4 hX0 Hg.out (unzig_even Ho.out), (Below.refl _ _).alloc (Nat.le_refl _) _⟩
        · go_wp2
          go_round
          case rel =>
            obtain ⟨hu1, hu2⟩ := add_step x s[p0 + k].toNat k (by omega) hx0 Hxk.out
            refine ⟨k + 1, _, by omega, by go_num, rfl, by rw [hu1]; omega, by rw [hu1, Int.toNat_natCast]; exact hu2, fin0 (hget2.out.trans (by rw [if_neg (by omega), if_neg (by omega)]; rfl)) hu1⟩
          case measure => simp [intOf]; omega
    · have Hg : Hid (getL 0 0 (s.data.toList.drop p0) = (4, 0, 0)) := hget.out.trans (by rw [drop_none s (p0 + k) (by omega), getL])
      clear hget
      go_wp2
      exact bodyPost_ret (v := .agg #[.int .i64 0, .int .i64 0, .int .i64 4]) (by simp [results, Try.results19, go_sem]) rfl ⟨by rw [Hg.out]; rfl, (Below.refl _ _).alloc (Nat.le_refl _) _⟩
end Go.Proofs.Ytnnhoobjnnjnhaa
