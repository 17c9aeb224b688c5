/- The table of ops (impl.opRows) as the program lays it: its cells; impl.inList, impl.rowOf, impl.OpName. -/
import Derived.Test.YtijgonjnmibifaaGreatDoorPrg
import Derived.OpenShut
import Derived.ProofKit
import Derived.Stop.Joined
import Derived.LaidMore
namespace Go.Proofs.YtijgonjnmibifaaGreatDoor
open Go.RowKit

/-- of each op its name, what its A is, what it takes and what it puts -/
def opL : List (List UInt8 × Int × Int × Int) := [
  ([], 0, 0, 0),
  ([112, 117, 115, 104], 1, 0, 1),
  ([108, 111, 97, 100], 2, 0, 1),
  ([115, 116, 111, 114, 101], 2, 1, 0),
  ([100, 117, 112], 0, 1, 2),
  ([112, 111, 112], 0, 1, 0),
  ([], 0, 0, 0),
  ([], 0, 0, 0),
  ([], 0, 0, 0),
  ([], 0, 0, 0),
  ([97, 100, 100], 0, 2, 1),
  ([115, 117, 98], 0, 2, 1),
  ([109, 117, 108], 0, 2, 1),
  ([100, 105, 118], 0, 2, 1),
  ([114, 101, 109], 0, 2, 1),
  ([97, 110, 100], 0, 2, 1),
  ([111, 114], 0, 2, 1),
  ([120, 111, 114], 0, 2, 1),
  ([115, 104, 108], 0, 2, 1),
  ([115, 104, 114], 0, 2, 1),
  ([117, 115, 104, 114], 0, 2, 1),
  ([108, 101, 115, 115], 0, 2, 1),
  ([97, 116, 109, 111, 115, 116], 0, 2, 1),
  ([115, 97, 109, 101], 0, 2, 1),
  ([110, 101, 103], 0, 1, 1),
  ([110, 111, 116], 0, 1, 1),
  ([98, 121, 116, 101], 0, 1, 1),
  ([115, 104, 111, 114, 116], 0, 1, 1),
  ([105, 110, 116], 0, 1, 1),
  ([119, 111, 114, 100], 0, 1, 1),
  ([106, 117, 109, 112], 3, 0, 0),
  ([106, 122], 3, 1, 0),
  ([99, 97, 108, 108], 4, 0, 1),
  ([114, 101, 116], 0, 1, 0),
  ([110, 101, 119], 0, 1, 1),
  ([103, 101, 116], 0, 2, 1),
  ([115, 101, 116], 0, 3, 0),
  ([108, 101, 110], 0, 1, 1),
  ([111, 117, 116], 0, 1, 0)]

theorem opL_laid {H : Type} : (Rows.laid_loop_example_g00219_impl_opRows : DataW H) = .agg (opL.map fun r => .agg [.lit (.string r.1), .lit (.int .i64 r.2.1), .lit (.int .i64 r.2.2.1), .lit (.int .i64 r.2.2.2)]) := rfl

/-- a row by its number; of no op all noughts -/
def opN (k : Nat) : List UInt8 × Int × Int × Int := opL.getD k ([], 0, 0, 0)
def opRow (op : Int) : List UInt8 × Int × Int × Int := if 0 ≤ op ∧ op < 39 then opN op.toNat else ([], 0, 0, 0)

/-- the table lies in its variable's block -/
def Tab (w : World) : Prop := 1 < w.heap.size ∧ ∀ k, k < 39 →
  w.cell? ⟨1, k * 4, none⟩ = some (.string ⟨(opN k).1.toArray⟩) ∧ w.cell? ⟨1, k * 4 + 1, none⟩ = some (.int .i64 (opN k).2.1) ∧
  w.cell? ⟨1, k * 4 + 2, none⟩ = some (.int .i64 (opN k).2.2.1) ∧ w.cell? ⟨1, k * 4 + 3, none⟩ = some (.int .i64 (opN k).2.2.2)

theorem Tab.below {w w' : World} (h : Tab w) (hb : Below w.heap.size w w') : Tab w' := by
  refine ⟨Nat.lt_of_lt_of_le h.1 hb.size, fun k hk => ?_⟩
  obtain ⟨h0, h1, h2, h3⟩ := h.2 k hk
  exact ⟨by rw [hb.cell (by exact h.1)]; exact h0, by rw [hb.cell (by exact h.1)]; exact h1, by rw [hb.cell (by exact h.1)]; exact h2, by rw [hb.cell (by exact h.1)]; exact h3⟩

theorem gOp : Tryz.prog.globalNamed "loop.example/g00219/impl.opRows" = some 1 := by kernel_rfl
theorem tOp : (Tryz.prog.globals[1]?).map (·.type) = some 226 := by kernel_rfl
theorem cOp : Tryz.prog.cellsOf 221 = 4 := by kernel_rfl

theorem take1 {α : Type} {l : List α} {n : Nat} {a : α} (h : (l.drop n).take 1 = [a]) : l[n]? = some a := by
  have := congrArg (·[0]?) h
  simpa [List.getElem?_take, List.getElem?_drop] using this

set_option maxRecDepth 100000 in
/-- what the row's condition says of the table's cells -/
theorem tab_of_laid {W : World} (h : laidMetH Tryz.prog [("loop.example/g00219/impl.opRows", Rows.laid_loop_example_g00219_impl_opRows)] W) : Tab W := by
  rw [MakeChecks.laidMetH_plain _ _ _ (by kernel_rfl)] at h
  obtain ⟨ps, ⟨g, t, cs, f, p, q, hg, ht, hv, hd, _, _⟩, _, _⟩ := h
  obtain rfl := Option.some.inj (gOp.symm.trans hg)
  obtain rfl := Option.some.inj (tOp.symm.trans ht)
  rw [opL_laid] at hd
  obtain ⟨xs, m, rfl, hx, hlen, hn, hel⟩ := DataW.trod_array Tryz.underlying226 hd
  have hx1 := congrArg Prod.fst hx
  simp only [DataW.agg.injEq] at hx1
  have hcell := World.var?_cell hg hv
  have hsz : 1 < W.heap.size := by
    have h0 := hcell 0
    have : 0 < cs.toList.length := by rw [hlen]; exact of_decide_eq_true (by kernel_rfl)
    rw [Array.length_toList] at this
    rw [Array.getElem?_eq_getElem this] at h0
    exact World.block_lt_of_cell? W _ h0
  refine ⟨hsz, fun k hk => ?_⟩
  have hk' := hel k hk
  have hkx : k < xs.length := by omega
  rw [cOp, List.getElem?_eq_getElem hkx] at hk'
  have hD : (xs[k]).1 = DataW.agg [.lit (.string (opN k).1), .lit (.int .i64 (opN k).2.1), .lit (.int .i64 (opN k).2.2.1), .lit (.int .i64 (opN k).2.2.2)] := by
    have := congrArg (·[k]?) hx1
    have hk39 : k < opL.length := hk
    simp only [List.getElem?_map, List.getElem?_eq_getElem hkx, List.getElem?_eq_getElem hk39, Option.map_some, Option.some.injEq] at this
    rw [← this]
    simp [opN, List.getD, List.getElem?_eq_getElem hk39]
  obtain ⟨ys, m', _, hy, _, hyn, hf⟩ := DataW.trod_struct Tryz.underlying221 hk'
  rw [hy] at hD
  simp only [DataW.agg.injEq] at hD
  have f0 := hf 0 _ rfl
  have f1 := hf 1 _ rfl
  have f2 := hf 2 _ rfl
  have f3 := hf 3 _ rfl
  match ys, hyn, hD, f0, f1, f2, f3 with
  | [y0, y1, y2, y3], _, hD, f0, f1, f2, f3 =>
    simp only [List.map_cons, List.map_nil, List.cons.injEq, and_true] at hD
    obtain ⟨d0, d1, d2, d3⟩ := hD
    simp only [List.drop_take, List.drop_drop, List.take_take] at f0 f1 f2 f3
    obtain ⟨s, e0, g0, _⟩ := DataW.trod_string Tryz.underlying9 f0
    obtain ⟨n1, e1, g1, _⟩ := DataW.trod_int Tryz.underlying2 f1
    obtain ⟨n2, e2, g2, _⟩ := DataW.trod_int Tryz.underlying2 f2
    obtain ⟨n3, e3, g3, _⟩ := DataW.trod_int Tryz.underlying2 f3
    rw [g0] at d0
    rw [g1] at d1
    rw [g2] at d2
    rw [g3] at d3
    simp only [DataW.lit.injEq, Lit.int.injEq, Lit.string.injEq, true_and] at d0 d1 d2 d3
    have k0 := take1 (n := k * 4) e0
    have k1 := take1 (n := k * 4 + 1) e1
    have k2 := take1 (n := k * 4 + 2) e2
    have k3 := take1 (n := k * 4 + 3) e3
    refine ⟨?_, ?_, ?_, ?_⟩
    · rw [hcell, ← Array.getElem?_toList, k0, ← d0]
    · rw [hcell, ← Array.getElem?_toList, k1, ← d1]
    · rw [hcell, ← Array.getElem?_toList, k2, ← d2]
    · rw [hcell, ← Array.getElem?_toList, k3, ← d3]
end Go.Proofs.YtijgonjnmibifaaGreatDoor
