/- What the source draws: one of so many, any number, an edge. -/
import Derived.Test.YtljhoplcfoiiiaaDoorSrcNew
namespace Go.Proofs.YtljhoplcfoiiiaaDoor
open Go.RowKit

theorem srcOne (B g : Nat) (of : Int) (w : World) (hs : Src B w g) (hm : of ≤ 9223372036854775807) :
    Calls Tryd.prog 39 #[.pointer (some ⟨g, 0, none⟩), .int .i64 of] w fun e w' => ∃ r : Bool, e = .returned (.bool r) ∧ Src B w' g ∧ w.grownBy w' (some g) := by
  have Hs : Hid (Src B w g) := hs
  clear hs
  go_enter Tryd.func39, Tryd.ntmps39
  go_wp2_with fail
  refine (srcN B g of _ Hs.out hm).mono ?_
  rintro e w1 ⟨r, rfl, hr0, hr1, hs1, hg1⟩
  go_wp2_with fail
  go_ret
  exact ⟨_, rfl, hs1, hg1⟩

/-- the table of edges -/
def edges : Array Value := #[.int .i64 0, .int .i64 1, .int .i64 (-1), .int .i64 2, .int .i64 1000, .int .i64 1001, .int .i64 2147483648, .int .i64 2147483647, .int .i64 (-2147483648), .int .i64 4611686018427387904, .int .i64 9223372036854775807, .int .i64 (-9223372036854775808), .int .i64 1000000, .int .i64 1000001]

theorem edges_at (k : Nat) (h : k < 14) : ∃ x : Int, edges[k]? = some (.int .i64 x) ∧ -9223372036854775808 ≤ x ∧ x ≤ 9223372036854775807 := by
  match k, h with
  | 0, _ => exact ⟨_, rfl, by omega, by omega⟩
  | 1, _ => exact ⟨_, rfl, by omega, by omega⟩
  | 2, _ => exact ⟨_, rfl, by omega, by omega⟩
  | 3, _ => exact ⟨_, rfl, by omega, by omega⟩
  | 4, _ => exact ⟨_, rfl, by omega, by omega⟩
  | 5, _ => exact ⟨_, rfl, by omega, by omega⟩
  | 6, _ => exact ⟨_, rfl, by omega, by omega⟩
  | 7, _ => exact ⟨_, rfl, by omega, by omega⟩
  | 8, _ => exact ⟨_, rfl, by omega, by omega⟩
  | 9, _ => exact ⟨_, rfl, by omega, by omega⟩
  | 10, _ => exact ⟨_, rfl, by omega, by omega⟩
  | 11, _ => exact ⟨_, rfl, by omega, by omega⟩
  | 12, _ => exact ⟨_, rfl, by omega, by omega⟩
  | 13, _ => exact ⟨_, rfl, by omega, by omega⟩
  | n + 14, h => omega

/-- a cell of a block that was just laid, behind a draw from the source -/
theorem cell_behind {w w1 : World} {g : Nat} {C : Array Value} {t : TypeId} (hg : g < w.heap.size) (h : (w.alloc (.cells C t)).grownBy w1 (some g)) (k : Nat) : w1.cell? ⟨w.heap.size, k, none⟩ = C[k]? := by
  have hb := h.block w.heap.size (by simp) (by simp; omega)
  rw [World.cell?_of_block (w := w.alloc (.cells C t)) (a := ⟨w.heap.size, k, none⟩) hb]
  exact World.cell?_alloc_mark w C t (0, 0) k

set_option maxRecDepth 100000 in
theorem srcEdge (B g : Nat) (w : World) (hs : Src B w g) :
    Calls Tryd.prog 89 #[.pointer (some ⟨g, 0, none⟩)] w fun e w' => ∃ r : Int, e = .returned (.int .i64 r) ∧ -9223372036854775808 ≤ r ∧ r ≤ 9223372036854775807 ∧ Src B w' g ∧ w.grownBy w' (some g) := by
  have Hs : Hid (Src B w g) := hs
  clear hs
  go_enter Tryd.func89, Tryd.ntmps89
  go_wp2_with fail
  refine (srcN B g 14 _ (Hs.out.alloc _) (by omega)).mono ?_
  rintro e w1 ⟨r, rfl, hr0, hr1, hs1, hg1⟩
  obtain ⟨k, rfl⟩ := Int.eq_ofNat_of_zero_le hr0
  have hk : k < 14 := by omega
  obtain ⟨x, hx, hx0, hx1⟩ := edges_at k hk
  have hcell : w1.cell? ⟨w.heap.size, k, none⟩ = some (.int .i64 x) := (cell_behind Hs.out.2.1 hg1 k).trans hx
  have Hg1 : Hid (w.grownBy w1 (some g)) := grownBy_trans (grownBy_alloc8 (only_refl w g) _) hg1
  have Hs1 : Hid (Src B w1 g) := hs1
  have hk14 : (k : Int) < 14 := by omega
  clear hg1 hs1 hx hr1
  go_wp2_with fail
  go_ret
  exact ⟨x, rfl, hx0, hx1, Hs1.out, Hg1.out⟩

end Go.Proofs.YtljhoplcfoiiiaaDoor
