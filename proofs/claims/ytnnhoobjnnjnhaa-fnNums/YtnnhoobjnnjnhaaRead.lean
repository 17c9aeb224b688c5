/- Reading a number in impl: the goto loop. -/
import Derived.Test.YtnnhoobjnnjnhaaScope3
namespace Go.Proofs.Ytnnhoobjnnjnhaa
open Go.RowKit

/-- what is read of the bytes l, k of them having been read into u: a code, the number, how many bytes it has -/
def getL (k u : Nat) : List UInt8 → Nat × Nat × Nat
  | [] => (4, 0, 0)
  | c :: l => if k = 9 ∧ 1 < c.toNat then (3, 0, 0) else if c.toNat < 128 then (if c.toNat = 0 ∧ 0 < k then (3, 0, 0) else (0, u + c.toNat * 128 ^ k, k + 1)) else getL (k + 1) (u + c.toNat % 128 * 128 ^ k) l

/-- the thing that is told -/
def numOut (at0 : Nat) (r : Nat × Nat × Nat) : Value := if r.1 = 0 then .agg #[.int .i64 (unzig r.2.1), .int .i64 ((at0 + r.2.2 : Nat) : Int), .int .i64 0] else .agg #[.int .i64 0, .int .i64 0, .int .i64 (r.1 : Int)]

theorem drop_cons (s : ByteArray) (p : Nat) (h : p < s.size) : s.data.toList.drop p = s[p] :: s.data.toList.drop (p + 1) := by
  rw [List.drop_eq_getElem_cons (by simpa using h)]; rfl

theorem drop_none (s : ByteArray) (p : Nat) (h : s.size ≤ p) : s.data.toList.drop p = [] := List.drop_eq_nil_of_le (by simpa using h)

theorem u8_and127 (x : Int) (h0 : 0 ≤ x) (h1 : x < 256) : bits .and .u8 x 127 = x % 128 := by
  have h := bits_mask .u8 8 (by decide) wraps_u8 7 (by decide) x h0 (by omega)
  simpa using h

/-- one byte more, below its bits -/
theorem or_step (x : Int) (c k : Nat) (hk : k ≤ 8) (hx0 : 0 ≤ x) (hx : x.toNat < 128 ^ k) (h1 : c < 256) :
    bits .or .u64 x (IntKind.u64.wrap (IntKind.u64.wrap (bits .and .u8 (c : Int) 127) * 2 ^ (7 * k))) = ((x.toNat + c % 128 * 128 ^ k : Nat) : Int) ∧ x.toNat + c % 128 * 128 ^ k < 128 ^ (k + 1) := by
  rw [u8_and127 c (by omega) (by omega)]
  have hm1 : c % 128 < 128 := by omega
  have hm : (c : Int) % 128 = ((c % 128 : Nat) : Int) := by omega
  generalize c % 128 = m at hm hm1
  obtain ⟨y, rfl⟩ := Int.eq_ofNat_of_zero_le hx0
  have e128 : (128 : Nat) ^ k = 2 ^ (7 * k) := by rw [Nat.pow_mul]
  have hpk : 2 ^ (7 * k) ≤ 2 ^ 56 := Nat.pow_le_pow_right (by decide) (by omega)
  have hmk : m * 2 ^ (7 * k) ≤ 127 * 2 ^ (7 * k) := Nat.mul_le_mul_right _ (by omega)
  simp only [Int.toNat_natCast] at hx ⊢
  rw [hm, Nat.pow_succ, e128]
  rw [e128] at hx
  clear e128
  have hlt : y + m * 2 ^ (7 * k) < 2 ^ (7 * k) * 128 := by omega
  refine ⟨?_, hlt⟩
  have e1 : IntKind.u64.wrap (m : Int) = (m : Int) := by rw [IntKind.wrap_u64]; omega
  have e2 : (m : Int) * 2 ^ (7 * k) = ((m * 2 ^ (7 * k) : Nat) : Int) := by push_cast; rfl
  have e3 : IntKind.u64.wrap ((m * 2 ^ (7 * k) : Nat) : Int) = ((m * 2 ^ (7 * k) : Nat) : Int) := by rw [IntKind.wrap_u64]; omega
  rw [e1, e2, e3, u64_or_nat _ _ (by omega) (by omega), Nat.or_comm, nat_join (7 * k) _ _ (Nat.mul_mod_left _ _) hx, Nat.add_comm]

/-- the tenth byte -/
theorem or_last (x : Int) (m : Nat) (hx0 : 0 ≤ x) (hx : x.toNat < 128 ^ 9) (h1 : m ≤ 1) :
    bits .or .u64 x (IntKind.u64.wrap (IntKind.u64.wrap (bits .and .u8 (m : Int) 127) * 9223372036854775808)) = ((x.toNat + m * 128 ^ 9 : Nat) : Int) ∧ x.toNat + m * 128 ^ 9 < 18446744073709551616 := by
  rw [u8_and127 m (by omega) (by omega)]
  obtain ⟨y, rfl⟩ := Int.eq_ofNat_of_zero_le hx0
  have e9 : (128 : Nat) ^ 9 = 9223372036854775808 := by decide
  simp only [Int.toNat_natCast] at hx ⊢
  rw [e9] at *
  have e0 : (m : Int) % 128 = m := by omega
  have e1 : IntKind.u64.wrap (m : Int) = (m : Int) := by rw [IntKind.wrap_u64]; omega
  have e2 : (m : Int) * 9223372036854775808 = ((m * 9223372036854775808 : Nat) : Int) := by omega
  have e3 : IntKind.u64.wrap ((m * 9223372036854775808 : Nat) : Int) = ((m * 9223372036854775808 : Nat) : Int) := by rw [IntKind.wrap_u64]; omega
  refine ⟨?_, by omega⟩
  rw [e0, e1, e2, e3, u64_or_nat _ _ (by omega) (by omega), Nat.or_comm, nat_join 63 _ _ (show m * 9223372036854775808 % 9223372036854775808 = 0 by omega) (show y < 9223372036854775808 from hx), Nat.add_comm]

theorem fin2 {g : Nat × Nat × Nat} {c k y : Nat} {z : Int} (hg : g = if c = 0 ∧ 0 < k then (3, 0, 0) else (0, y, k + 1)) (hz : z = (y : Int)) :
    Hid (g = if (c : Int) = 0 ∧ 0 < k then (3, 0, 0) else (0, z.toNat, k + 1)) := by
  subst hz
  rw [hg, Int.toNat_natCast]
  show _ = _
  by_cases h : c = 0 ∧ 0 < k
  · rw [if_pos h, if_pos ⟨by omega, by omega⟩]
  · rw [if_neg h, if_neg (by omega)]

theorem fin0 {g : Nat × Nat × Nat} {k y : Nat} {l : List UInt8} {z : Int} (hg : g = getL k y l) (hz : z = (y : Int)) : Hid (g = getL k z.toNat l) := by
  subst hz
  rw [hg, Int.toNat_natCast]
  rfl

theorem fin3 {g : Nat × Nat × Nat} {k p p0 : Nat} {x : Int} (h0 : 0 ≤ x) (hg : g = (0, x.toNat, k + 1)) (hp : p = p0 + k + 1) :
    Ending.returned (.agg #[.int .i64 (unzig x), .int .i64 (p : Int), .int .i64 0]) = .returned (numOut p0 g) := by
  subst hg hp
  unfold numOut
  rw [if_pos rfl]
  have e : ((x.toNat : Nat) : Int) = x := by omega
  show _ = Ending.returned (.agg #[.int .i64 (unzig (x.toNat : Int)), .int .i64 ((p0 + (k + 1) : Nat) : Int), .int .i64 0])
  rw [e]
  rfl

set_option maxRecDepth 100000 in
set_option maxHeartbeats 1600000 in
theorem implRead (s : ByteArray) (p0 : Nat) (w : World) (hs : s.size ≤ 20000) :
    Calls Try.prog 28 #[.string s, .int .i64 (p0 : Int)] w fun e w' => e = .returned (numOut p0 (getL 0 0 (s.data.toList.drop p0))) ∧ Below w.heap.size w w' := by
  go_enter Try.func28, Try.ntmps28
  go_wp2
  refine wp_scope_three_lead
    (fun a' w' => w' = w.alloc (.cells #[.int .i64 0, .int .i64 0, .int .i64 0] 26) ∧ ∃ (k p : Nat) (x : Int) (b : Value) (u8 u9 u10 u11 u12 u13 u14 u15 u16 u17 u18 u19 u20 u21 u22 u23 u24 u25 u26 u27 u28 u29 u30 u31 u32 u33 u34 u35 u36 u37 u38 u39 u40 u41 u42 u43 u44 u45 : Value), a' = { tmps := #[.string s, .int .i64 (p : Int), undef, undef, .pointer (some ⟨w.heap.size, 0, none⟩), .int .u64 x, b, .int .u64 (7 * (k : Int)), u8, u9, u10, u11, u12, u13, u14, u15, u16, u17, u18, u19, u20, u21, u22, u23, u24, u25, u26, u27, u28, u29, u30, u31, u32, u33, u34, u35, u36, u37, u38, u39, u40, u41, u42, u43, u44, u45], defers := [] } ∧ p = p0 + k ∧ k ≤ 9 ∧ 0 ≤ x ∧ x.toNat < 128 ^ k ∧ Hid (getL 0 0 (s.data.toList.drop p0) = getL k x.toNat (s.data.toList.drop p)))
    (fun a' w' => w' = w.alloc (.cells #[.int .i64 0, .int .i64 0, .int .i64 0] 26) ∧ ∃ (at' x b sh : Value) (u8 u9 u10 u11 u12 u13 u14 u15 u16 u17 u18 u19 u20 u21 u22 u23 u24 u25 u26 u27 u28 u29 u30 u31 u32 u33 u34 u35 u36 u37 u38 u39 u40 u41 u42 u43 u44 u45 : Value), a' = { tmps := #[.string s, at', undef, undef, .pointer (some ⟨w.heap.size, 0, none⟩), x, b, sh, u8, u9, u10, u11, u12, u13, u14, u15, u16, u17, u18, u19, u20, u21, u22, u23, u24, u25, u26, u27, u28, u29, u30, u31, u32, u33, u34, u35, u36, u37, u38, u39, u40, u41, u42, u43, u44, u45], defers := [] } ∧ Hid (getL 0 0 (s.data.toList.drop p0) = (3, 0, 0)))
    (fun a' w' => w' = w.alloc (.cells #[.int .i64 0, .int .i64 0, .int .i64 0] 26) ∧ ∃ (k p : Nat) (x b : Int) (u8 u9 u10 u11 u12 u13 u14 u15 u16 u17 u18 u19 u20 u21 u22 u23 u24 u25 u26 u27 u28 u29 u30 u31 u32 u33 u34 u35 u36 u37 u38 u39 u40 u41 u42 u43 u44 u45 : Value), a' = { tmps := #[.string s, .int .i64 (p : Int), undef, undef, .pointer (some ⟨w.heap.size, 0, none⟩), .int .u64 x, .int .u8 b, .int .u64 (7 * (k : Int)), u8, u9, u10, u11, u12, u13, u14, u15, u16, u17, u18, u19, u20, u21, u22, u23, u24, u25, u26, u27, u28, u29, u30, u31, u32, u33, u34, u35, u36, u37, u38, u39, u40, u41, u42, u43, u44, u45], defers := [] } ∧ p = p0 + k + 1 ∧ k ≤ 9 ∧ p ≤ s.size ∧ 0 ≤ x ∧ x < 18446744073709551616 ∧ 0 ≤ b ∧ b < 128 ∧ Hid (getL 0 0 (s.data.toList.drop p0) = if b = 0 ∧ 0 < k then (3, 0, 0) else (0, x.toNat, k + 1)))
    (fun a' _ => 70 - (intOf (a'.tmps.getD 7 undef)).toNat) rfl rfl rfl ?lead ?pass0 ?pass1 ?pass2
  case lead =>
    intro Q' hr
    go_wp2
    rename_i K hK
    exact wp_label (hK _ _ (hr _ _ ⟨rfl, 0, p0, 0, _, _, _, _, _, _, _, _, _, _, _, _, _, _, _, _, _, _, _, _, _, _, _, _, _, _, _, _, _, _, _, _, _, _, _, _, _, _, _, rfl, rfl, by omega, by omega, by decide, rfl⟩))
  case pass0 =>
    rintro a' w' ⟨rfl, k, p, x, b, u8, u9, u10, u11, u12, u13, u14, u15, u16, u17, u18, u19, u20, u21, u22, u23, u24, u25, u26, u27, u28, u29, u30, u31, u32, u33, u34, u35, u36, u37, u38, u39, u40, u41, u42, u43, u44, u45, rfl, hp, hk, hx0, hxk, hget⟩
    have Hp : Hid (p = p0 + k) := hp
    have Hxk : Hid (x.toNat < 128 ^ k) := hxk
    clear hp hxk
    by_cases hps : p < s.size
    · have hget2 : Hid (_ = _) := hget.out.trans (by rw [drop_cons s p hps, getL])
      clear hget
      have hb1 : (s[p].toNat : Int) < 256 := by have := s[p].toNat_lt; omega
      by_cases hk9 : k = 9
      · subst hk9
        by_cases hB : (1 : Int) < (s[p].toNat : Int)
        · go_wp2
          go_step3
          refine ⟨rfl, _, _, _, _, _, _, _, _, _, _, _, _, _, _, _, _, _, _, _, _, _, _, _, _, _, _, _, _, _, _, _, _, _, _, _, _, _, _, _, _, _, _, rfl, ?_⟩
          rw [hget2.out, if_pos ⟨by first | rfl | trivial, by omega⟩]
          rfl
        · have Ho : Hid (_ ∧ _) := or_last x s[p].toNat hx0 Hxk.out (by omega)
          go_wp2
          go_step3
          have hP := Hp.out
          obtain ⟨ho1, ho2⟩ := Ho.out
          refine ⟨rfl, 9, p + 1, _, _, _, _, _, _, _, _, _, _, _, _, _, _, _, _, _, _, _, _, _, _, _, _, _, _, _, _, _, _, _, _, _, _, _, _, _, _, _, _, rfl, by omega, by omega, by omega, by rw [ho1]; omega, by rw [ho1]; omega, by omega, by omega, ?_⟩
          exact fin2 (hget2.out.trans (by rw [if_neg (by omega), if_pos (by omega)])) ho1
      · have hk63 : ¬ (7 * (k : Int) = 63) := by omega
        have hkk : ((7 * (k : Int)) == 63) = false := by simp; omega
        by_cases hc : (s[p].toNat : Int) < 128
        · have Ho : Hid (_ ∧ _) := or_step x s[p].toNat k (by omega) hx0 Hxk.out (by omega)
          go_wp2
          go_step3
          have hP := Hp.out
          obtain ⟨ho1, ho2⟩ := Ho.out
          have hle : 128 ^ (k + 1) ≤ 128 ^ 9 := Nat.pow_le_pow_right (by decide) (by omega)
          refine ⟨rfl, k, p + 1, _, _, _, _, _, _, _, _, _, _, _, _, _, _, _, _, _, _, _, _, _, _, _, _, _, _, _, _, _, _, _, _, _, _, _, _, _, _, _, _, rfl, by omega, by omega, by omega, by rw [ho1]; omega, by rw [ho1]; omega, by omega, by omega, ?_⟩
          have em : s[p].toNat % 128 = s[p].toNat := by omega
          exact fin2 (hget2.out.trans (by rw [if_neg (by omega), if_pos (by omega), em])) ho1
        · have Ho : Hid (_ ∧ _) := or_step x s[p].toNat k (by omega) hx0 Hxk.out (by omega)
          go_wp2
          go_step3
          have hP := Hp.out
          obtain ⟨ho1, ho2⟩ := Ho.out
          refine ⟨⟨rfl, k + 1, p + 1, _, _, _, _, _, _, _, _, _, _, _, _, _, _, _, _, _, _, _, _, _, _, _, _, _, _, _, _, _, _, _, _, _, _, _, _, _, _, _, _, rfl, by omega, by omega, by rw [ho1]; omega, by rw [ho1, Int.toNat_natCast]; exact ho2, ?_⟩, ?_⟩
          · exact fin0 (hget2.out.trans (by rw [if_neg (by omega), if_neg (by omega)])) ho1
          · simp [intOf]
            omega
    · have hg4 : getL 0 0 (s.data.toList.drop p0) = (4, 0, 0) := hget.out.trans (by rw [drop_none s p (by omega), getL])
      have Hg : Hid (_ = _) := hg4
      clear hg4 hget
      go_wp2
      simp only [jump3]
      exact bodyPost_ret (v := .agg #[.int .i64 0, .int .i64 0, .int .i64 4]) (by simp [results, Try.results28, go_sem]) rfl ⟨by rw [Hg.out]; rfl, (Below.refl _ _).alloc (Nat.le_refl _) _⟩
  case pass1 =>
    rintro a' w' ⟨rfl, at', x, b, sh, u8, u9, u10, u11, u12, u13, u14, u15, u16, u17, u18, u19, u20, u21, u22, u23, u24, u25, u26, u27, u28, u29, u30, u31, u32, u33, u34, u35, u36, u37, u38, u39, u40, u41, u42, u43, u44, u45, rfl, hget⟩
    go_wp2
    simp only [jump3]
    exact bodyPost_ret (v := .agg #[.int .i64 0, .int .i64 0, .int .i64 3]) (by simp [results, Try.results28, go_sem]) rfl ⟨by rw [hget.out]; rfl, (Below.refl _ _).alloc (Nat.le_refl _) _⟩
  case pass2 =>
    rintro a' w' ⟨rfl, k, p, x, b, u8, u9, u10, u11, u12, u13, u14, u15, u16, u17, u18, u19, u20, u21, u22, u23, u24, u25, u26, u27, u28, u29, u30, u31, u32, u33, u34, u35, u36, u37, u38, u39, u40, u41, u42, u43, u44, u45, rfl, hp, hk, hps, hx0, hx1, hb0, hb1, hget⟩
    have Hp : Hid (p = p0 + k + 1) := hp
    clear hp
    by_cases hz : b = 0 ∧ 0 < k
    · have hget2 : Hid (_ = _) := hget.out.trans (if_pos hz)
      clear hget
      obtain ⟨rfl, hk0⟩ := hz
      have hk7 : (0 : Int) < 7 * (k : Int) := by omega
      go_wp2
      go_step3
      exact ⟨rfl, _, _, _, _, _, _, _, _, _, _, _, _, _, _, _, _, _, _, _, _, _, _, _, _, _, _, _, _, _, _, _, _, _, _, _, _, _, _, _, _, _, _, rfl, hget2⟩
    · have hget2 : Hid (_ = _) := hget.out.trans (if_neg hz)
      clear hget
      by_cases hb : b = 0
      · obtain rfl : k = 0 := by omega
        subst hb
        clear hz
        go_wp2_with (go_at_call 33; refine (implUnfold x _ hx0 hx1).mono ?_; rintro e w1 ⟨rfl, rfl⟩)
        simp only [jump3]
        exact bodyPost_ret (v := .agg #[.int .i64 (unzig x), .int .i64 (p : Int), .int .i64 0]) (by simp [results, Try.results28, go_sem]) rfl ⟨fin3 hx0 hget2.out Hp.out, (Below.refl _ _).alloc (Nat.le_refl _) _⟩
      · have hbb : (b == 0) = false := by simpa using hb
        clear hz hb
        go_wp2_with (go_at_call 33; refine (implUnfold x _ hx0 hx1).mono ?_; rintro e w1 ⟨rfl, rfl⟩)
        simp only [jump3]
        exact bodyPost_ret (v := .agg #[.int .i64 (unzig x), .int .i64 (p : Int), .int .i64 0]) (by simp [results, Try.results28, go_sem]) rfl ⟨fin3 hx0 hget2.out Hp.out, (Below.refl _ _).alloc (Nat.le_refl _) _⟩
end Go.Proofs.Ytnnhoobjnnjnhaa
