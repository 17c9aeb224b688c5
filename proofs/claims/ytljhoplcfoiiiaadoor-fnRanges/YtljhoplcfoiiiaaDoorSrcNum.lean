/- Drawn numbers of chapter 3: any number of int64. -/
import Derived.Test.YtljhoplcfoiiiaaDoorSrc2
namespace Go.Proofs.YtljhoplcfoiiiaaDoor
open Go.RowKit

/-- the table of numbers at the ends of 8, 16, 32 bits -/
def ends10 : Array Value := #[.int .i64 (127), .int .i64 (128), .int .i64 (-128), .int .i64 (-129), .int .i64 (32767), .int .i64 (32768), .int .i64 (65535), .int .i64 (4294967295), .int .i64 (4294967296), .int .i64 (-2147483649)]

theorem ends10_at (k : Nat) (h : k < 10) : ∃ x : Int, ends10[k]? = some (.int .i64 x) ∧ -9223372036854775808 ≤ x ∧ x ≤ 9223372036854775807 := by
  match k, h with
  | 0, _ => exact ⟨_, rfl, by omega, by omega⟩
  | 1, _ => exact ⟨_, rfl, by omega, by omega⟩
  | 2, _ => exact ⟨_, rfl, by omega, by omega⟩
  | 3, _ => exact ⟨_, rfl, by omega, by omega⟩
  | 4, _ => exact ⟨_, rfl, by omega, by omega⟩
  | 5, _ => exact ⟨_, rfl, by omega, by omega⟩
  | 6, _ => exact ⟨_, rfl, by omega, by omega⟩
  | 7, _ => exact ⟨_, rfl, by omega, by omega⟩
  | 8, _ => exact ⟨_, rfl, by omega, by omega⟩
  | 9, _ => exact ⟨_, rfl, by omega, by omega⟩
  | n + 10, h => omega

set_option maxRecDepth 100000 in
set_option maxHeartbeats 800000 in
theorem srcNum (B g : Nat) (w : World) (hs : Src B w g) :
    Calls Tryd.prog 80 #[.pointer (some ⟨g, 0, none⟩)] w fun e w' => ∃ r : Int, e = .returned (.int .i64 r) ∧ -9223372036854775808 ≤ r ∧ r ≤ 9223372036854775807 ∧ Src B w' g ∧ w.grownBy w' (some g) := by
  have Hs : Hid (Src B w g) := hs
  clear hs
  go_enter Tryd.func80, Tryd.ntmps80
  go_wp2_with fail
  refine (srcN B g 5 _ Hs.out (by omega)).mono ?_
  rintro e w1 ⟨r, rfl, hr0, hr1, hs1, hg1⟩
  have Hs1 : Hid (Src B w1 g) := hs1
  have Hg1 : Hid (w.grownBy w1 (some g)) := hg1
  clear hs1 hg1 hr1
  by_cases h0 : r = 0
  · subst h0
    go_wp2_with fail
    refine (srcEdge B g _ Hs1.out).mono ?_
    rintro e w2 ⟨x, rfl, hx0, hx1, hs2, hg2⟩
    go_wp2_with fail
    go_ret
    exact ⟨x, rfl, hx0, hx1, hs2, grownBy_trans Hg1.out hg2⟩
  · by_cases h1 : r = 1
    · subst h1
      clear h0
      go_wp2_with fail
      refine (srcN B g 9 _ Hs1.out (by omega)).mono ?_
      rintro e w2 ⟨x, rfl, hx0, hx1, hs2, hg2⟩
      have hx2 : x < 9 := by omega
      have Hs2 : Hid (Src B w2 g) := hs2
      have Hg2 : Hid (w1.grownBy w2 (some g)) := hg2
      clear hs2 hg2 hx1
      go_wp2_with fail
      go_ret
      exact ⟨x - 4, rfl, by omega, by omega, Hs2.out, grownBy_trans Hg1.out Hg2.out⟩
    · by_cases h2 : r = 2
      · subst h2
        clear h0 h1
        go_wp2_with fail
        refine (srcN B g 10 _ (Hs1.out.alloc _) (by omega)).mono ?_
        rintro e w2 ⟨x, rfl, hx0, hx1, hs2, hg2⟩
        obtain ⟨k, rfl⟩ := Int.eq_ofNat_of_zero_le hx0
        have hk : k < 10 := by omega
        obtain ⟨x, hx, hx0, hx1⟩ := ends10_at k hk
        have hcell : w2.cell? ⟨w1.heap.size, k, none⟩ = some (.int .i64 x) := (cell_behind Hs1.out.2.1 hg2 k).trans hx
        have Hg2 : Hid (w1.grownBy w2 (some g)) := grownBy_trans (grownBy_alloc8 (only_refl w1 g) _) hg2
        have Hs2 : Hid (Src B w2 g) := hs2
        have hk14 : (k : Int) < 10 := by omega
        clear hg2 hs2 hx
        go_wp2_with fail
        go_ret
        exact ⟨x, rfl, hx0, hx1, Hs2.out, grownBy_trans Hg1.out Hg2.out⟩
      · go_wp2_with fail
        refine (srcN B g 1099511627776 _ Hs1.out (by omega)).mono ?_
        rintro e w2 ⟨x, rfl, hx0, hx1, hs2, hg2⟩
        have Hs2 : Hid (Src B w2 g) := hs2
        have Hg2 : Hid (w1.grownBy w2 (some g)) := hg2
        have hx2 : x < 1099511627776 := by omega
        clear hs2 hg2 hx1
        go_wp2_with fail
        go_ret
        exact ⟨x - 549755813888, rfl, by omega, by omega, Hs2.out, grownBy_trans Hg1.out Hg2.out⟩
end Go.Proofs.YtljhoplcfoiiiaaDoor
