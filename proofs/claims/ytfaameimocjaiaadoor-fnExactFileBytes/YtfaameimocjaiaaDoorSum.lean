/- The sum of a text: what impl.Sum and spec.Sum answer, over plain lists of bytes, and that both calls answer just that. -/
import Derived.Test.YtfaameimocjaiaaDoorRows
import Derived.WalkKit
import Derived.WalkLawsBesides
import Derived.WalkSpells
namespace Go.Proofs.YtfaameimocjaiaaDoor
open Go.RowKit

theorem ret_int {k : IntKind} {a b : Int} (h : a = b) : Ending.returned (.int k a) = .returned (.int k b) := by rw [h]

def sumB (l : List UInt8) : Int := l.foldl (fun n c => (257 * n + (c.toNat : Int)) % 4294967291) 7

theorem sumB_snoc (l : List UInt8) (c : UInt8) : sumB (l ++ [c]) = (257 * sumB l + (c.toNat : Int)) % 4294967291 := by
  simp [sumB, List.foldl_append]

theorem fold_bd (l : List UInt8) (n : Int) (h : 0 ≤ n ∧ n < 4294967291) :
    0 ≤ l.foldl (fun n c => (257 * n + (c.toNat : Int)) % 4294967291) n ∧ l.foldl (fun n c => (257 * n + (c.toNat : Int)) % 4294967291) n < 4294967291 := by
  induction l generalizing n with
  | nil => exact h
  | cons c l ih => exact ih _ ⟨by show 0 ≤ (257 * n + (c.toNat : Int)) % 4294967291; omega, by show (257 * n + (c.toNat : Int)) % 4294967291 < 4294967291; omega⟩

theorem sumB_bd (l : List UInt8) : 0 ≤ sumB l ∧ sumB l < 4294967291 := fold_bd l 7 (by decide)

theorem take_snoc (s : ByteArray) (k : Nat) (h : k < s.size) : s.data.toList.take (k + 1) = s.data.toList.take k ++ [s[k]] := by
  rw [List.take_succ_eq_append_getElem (by simpa using h)]; rfl

/-- what both answer -/
def sumS (s : ByteArray) : Int := if s.size ≤ 20000 then sumB s.data.toList else 0

set_option maxHeartbeats 400000 in
theorem implSum (s : ByteArray) (w : World) (hs : s.size ≤ maxLen) :
    Calls Tryd.prog 31 #[.string s] w fun e w' => e = .returned (.int .i64 (sumS s)) ∧ w' = w := by
  unfold maxLen at hs
  by_cases hbig : 20000 < s.size
  · have hg : sumS s = 0 := by unfold sumS; rw [if_neg (by omega)]
    have Hg : Hid (_ = _) := hg
    clear hg
    have hb : (20000 : Int) < (s.size : Int) := by omega
    go_enter Tryd.func31, Tryd.ntmps31
    go_wp2
    go_ret
    exact ⟨ret_int Hg.out.symm, rfl⟩
  · have hg : sumS s = sumB (s.data.toList.take s.size) := by unfold sumS; rw [if_pos (by omega), List.take_of_length_le (by simp)]
    have Hg : Hid (_ = _) := hg
    clear hg
    have hb : ¬ (20000 : Int) < (s.size : Int) := by omega
    go_enter Tryd.func31, Tryd.ntmps31
    go_wp2
    go_loop [3, 4] (fun n i => ∃ k : Nat, k ≤ s.size ∧ i = .int .i64 k ∧ n = .int .i64 (sumB (s.data.toList.take k))) (fun _ i => s.size - (intOf i).toNat)
    case atStart => exact ⟨0, Nat.zero_le _, rfl, rfl⟩
    case round =>
      obtain ⟨k, hk, rfl, rfl⟩ := hrel
      have hd := sumB_bd (s.data.toList.take k)
      by_cases hlt : k < s.size
      · have hsn := sumB_snoc (s.data.toList.take k) s[k]
        have hts := take_snoc s k hlt
        rw [← hts] at hsn
        have HS : Hid (_ = _) := hsn
        clear hsn hts
        have hc : (s[k].toNat : Int) < 256 := by have := s[k].toNat_lt; omega
        go_wp2
        go_round
        case rel => exact ⟨k + 1, by omega, by go_num, by rw [HS.out]; go_num⟩
        case measure => simp [intOf]; omega
      · go_wp2
        go_ret
        obtain rfl : k = s.size := by omega
        exact ⟨ret_int Hg.out.symm, rfl⟩

set_option maxHeartbeats 400000 in
theorem specSum (s : ByteArray) (w : World) (hs : s.size ≤ maxLen) :
    Calls Tryd.prog 27 #[.string s] w fun e w' => e = .returned (.int .i64 (sumS s)) ∧ w' = w := by
  unfold maxLen at hs
  by_cases hbig : 20000 < s.size
  · have hg : sumS s = 0 := by unfold sumS; rw [if_neg (by omega)]
    have Hg : Hid (_ = _) := hg
    clear hg
    have hb : (20000 : Int) < (s.size : Int) := by omega
    go_enter Tryd.func27, Tryd.ntmps27
    go_wp2
    go_ret
    exact ⟨ret_int Hg.out.symm, rfl⟩
  · have hg : sumS s = sumB (s.data.toList.take s.size) := by unfold sumS; rw [if_pos (by omega), List.take_of_length_le (by simp)]
    have Hg : Hid (_ = _) := hg
    clear hg
    have hb : ¬ (20000 : Int) < (s.size : Int) := by omega
    go_enter Tryd.func27, Tryd.ntmps27
    go_wp2
    go_loop [3, 4] (fun n i => ∃ k : Nat, k ≤ s.size ∧ i = .int .i64 k ∧ n = .int .i64 (sumB (s.data.toList.take k))) (fun _ i => s.size - (intOf i).toNat)
    case atStart => exact ⟨0, Nat.zero_le _, rfl, rfl⟩
    case round =>
      obtain ⟨k, hk, rfl, rfl⟩ := hrel
      have hd := sumB_bd (s.data.toList.take k)
      by_cases hlt : k < s.size
      · have hsn := sumB_snoc (s.data.toList.take k) s[k]
        have hts := take_snoc s k hlt
        rw [← hts] at hsn
        have HS : Hid (_ = _) := hsn
        clear hsn hts
        have hc : (s[k].toNat : Int) < 256 := by have := s[k].toNat_lt; omega
        go_wp2
        go_round
        case rel => exact ⟨k + 1, by omega, by go_num, by rw [HS.out]⟩
        case measure => simp [intOf]; omega
      · go_wp2
        go_ret
        obtain rfl : k = s.size := by omega
        exact ⟨ret_int Hg.out.symm, rfl⟩

end Go.Proofs.YtfaameimocjaiaaDoor
