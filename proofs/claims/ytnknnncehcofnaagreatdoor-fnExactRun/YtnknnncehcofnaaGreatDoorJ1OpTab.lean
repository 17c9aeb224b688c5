/- The table of ops (impl.opRows) as the program lays it: its cells; impl.inList, impl.rowOf, impl.OpName. impl.inList, impl.rowOf, impl.OpName; spec.OpName: an op's row of the table. laws.toProgram and what it calls: what it makes reads as what it was given, in memory of its own. What a law's argument is told as, and that it is so of each that came in: a number, an instruction, a function, a program. impl.Puts, spec.Puts; laws.FnExactPuts. -/
import Derived.Test.YtnknnncehcofnaaGreatDoorJ0Prg
import Derived.OpenShut
import Derived.ProofKit
import Derived.Stop.Joined
import Derived.LaidMore
import Derived.ShutString
import Derived.Deep.SlicePairs
import Derived.Lib.SmallJoins
namespace Go.Proofs.YtnknnncehcofnaaGreatDoor
open Go.RowKit

/-- of each op its name, what its A is, what it takes and what it puts -/
def opL : List (List UInt8 × Int × Int × Int) := [
  ([], 0, 0, 0),
  ([112, 117, 115, 104], 1, 0, 1),
  ([108, 111, 97, 100], 2, 0, 1),
  ([115, 116, 111, 114, 101], 2, 1, 0),
  ([100, 117, 112], 0, 1, 2),
  ([112, 111, 112], 0, 1, 0),
  ([], 0, 0, 0),
  ([], 0, 0, 0),
  ([], 0, 0, 0),
  ([], 0, 0, 0),
  ([97, 100, 100], 0, 2, 1),
  ([115, 117, 98], 0, 2, 1),
  ([109, 117, 108], 0, 2, 1),
  ([100, 105, 118], 0, 2, 1),
  ([114, 101, 109], 0, 2, 1),
  ([97, 110, 100], 0, 2, 1),
  ([111, 114], 0, 2, 1),
  ([120, 111, 114], 0, 2, 1),
  ([115, 104, 108], 0, 2, 1),
  ([115, 104, 114], 0, 2, 1),
  ([117, 115, 104, 114], 0, 2, 1),
  ([108, 101, 115, 115], 0, 2, 1),
  ([97, 116, 109, 111, 115, 116], 0, 2, 1),
  ([115, 97, 109, 101], 0, 2, 1),
  ([110, 101, 103], 0, 1, 1),
  ([110, 111, 116], 0, 1, 1),
  ([98, 121, 116, 101], 0, 1, 1),
  ([115, 104, 111, 114, 116], 0, 1, 1),
  ([105, 110, 116], 0, 1, 1),
  ([119, 111, 114, 100], 0, 1, 1),
  ([106, 117, 109, 112], 3, 0, 0),
  ([106, 122], 3, 1, 0),
  ([99, 97, 108, 108], 4, 0, 1),
  ([114, 101, 116], 0, 1, 0),
  ([110, 101, 119], 0, 1, 1),
  ([103, 101, 116], 0, 2, 1),
  ([115, 101, 116], 0, 3, 0),
  ([108, 101, 110], 0, 1, 1),
  ([111, 117, 116], 0, 1, 0)]

theorem opL_laid {H : Type} : (Rows.laid_loop_example_g00219_impl_opRows : DataW H) = .agg (opL.map fun r => .agg [.lit (.string r.1), .lit (.int .i64 r.2.1), .lit (.int .i64 r.2.2.1), .lit (.int .i64 r.2.2.2)]) := rfl

/-- a row by its number; of no op all noughts -/
def opN (k : Nat) : List UInt8 × Int × Int × Int := opL.getD k ([], 0, 0, 0)
def opRow (op : Int) : List UInt8 × Int × Int × Int := if 0 ≤ op ∧ op < 39 then opN op.toNat else ([], 0, 0, 0)

/-- the table lies in its variable's block -/
def Tab (w : World) : Prop := 0 < w.heap.size ∧ ∀ k, k < 39 →
  w.cell? ⟨0, k * 4, none⟩ = some (.string ⟨(opN k).1.toArray⟩) ∧ w.cell? ⟨0, k * 4 + 1, none⟩ = some (.int .i64 (opN k).2.1) ∧
  w.cell? ⟨0, k * 4 + 2, none⟩ = some (.int .i64 (opN k).2.2.1) ∧ w.cell? ⟨0, k * 4 + 3, none⟩ = some (.int .i64 (opN k).2.2.2)

theorem Tab.below {w w' : World} (h : Tab w) (hb : Below w.heap.size w w') : Tab w' := by
  refine ⟨Nat.lt_of_lt_of_le h.1 hb.size, fun k hk => ?_⟩
  obtain ⟨h0, h1, h2, h3⟩ := h.2 k hk
  exact ⟨by rw [hb.cell (by exact h.1)]; exact h0, by rw [hb.cell (by exact h.1)]; exact h1, by rw [hb.cell (by exact h.1)]; exact h2, by rw [hb.cell (by exact h.1)]; exact h3⟩

theorem gOp : Tryz.prog.globalNamed "loop.example/g00219/impl.opRows" = some 0 := by kernel_rfl
theorem tOp : (Tryz.prog.globals[0]?).map (·.type) = some 282 := by kernel_rfl
theorem cOp : Tryz.prog.cellsOf 250 = 4 := by kernel_rfl

theorem take1 {α : Type} {l : List α} {n : Nat} {a : α} (h : (l.drop n).take 1 = [a]) : l[n]? = some a := by
  have := congrArg (·[0]?) h
  simpa [List.getElem?_take, List.getElem?_drop] using this

set_option maxRecDepth 100000 in
/-- what the row's condition says of the table's cells -/
theorem tab_of_laid {W : World} (h : laidMetH Tryz.prog [("loop.example/g00219/impl.opRows", Rows.laid_loop_example_g00219_impl_opRows)] W) : Tab W := by
  rw [MakeChecks.laidMetH_plain _ _ _ (by kernel_rfl)] at h
  obtain ⟨ps, ⟨g, t, cs, f, p, q, hg, ht, hv, hd, _, _⟩, _, _⟩ := h
  obtain rfl := Option.some.inj (gOp.symm.trans hg)
  obtain rfl := Option.some.inj (tOp.symm.trans ht)
  rw [opL_laid] at hd
  obtain ⟨xs, m, rfl, hx, hlen, hn, hel⟩ := DataW.trod_array Tryz.underlying282 hd
  have hx1 := congrArg Prod.fst hx
  simp only [DataW.agg.injEq] at hx1
  have hcell := World.var?_cell hg hv
  have hsz : 0 < W.heap.size := by
    have h0 := hcell 0
    have : 0 < cs.toList.length := by rw [hlen]; exact of_decide_eq_true (by kernel_rfl)
    rw [Array.length_toList] at this
    rw [Array.getElem?_eq_getElem this] at h0
    exact World.block_lt_of_cell? W _ h0
  refine ⟨hsz, fun k hk => ?_⟩
  have hk' := hel k hk
  have hkx : k < xs.length := by omega
  rw [cOp, List.getElem?_eq_getElem hkx] at hk'
  have hD : (xs[k]).1 = DataW.agg [.lit (.string (opN k).1), .lit (.int .i64 (opN k).2.1), .lit (.int .i64 (opN k).2.2.1), .lit (.int .i64 (opN k).2.2.2)] := by
    have := congrArg (·[k]?) hx1
    have hk39 : k < opL.length := hk
    simp only [List.getElem?_map, List.getElem?_eq_getElem hkx, List.getElem?_eq_getElem hk39, Option.map_some, Option.some.injEq] at this
    rw [← this]
    simp [opN, List.getD, List.getElem?_eq_getElem hk39]
  obtain ⟨ys, m', _, hy, _, hyn, hf⟩ := DataW.trod_struct Tryz.underlying250 hk'
  rw [hy] at hD
  simp only [DataW.agg.injEq] at hD
  have f0 := hf 0 _ rfl
  have f1 := hf 1 _ rfl
  have f2 := hf 2 _ rfl
  have f3 := hf 3 _ rfl
  match ys, hyn, hD, f0, f1, f2, f3 with
  | [y0, y1, y2, y3], _, hD, f0, f1, f2, f3 =>
    simp only [List.map_cons, List.map_nil, List.cons.injEq, and_true] at hD
    obtain ⟨d0, d1, d2, d3⟩ := hD
    simp only [List.drop_take, List.drop_drop, List.take_take] at f0 f1 f2 f3
    obtain ⟨s, e0, g0, _⟩ := DataW.trod_string Tryz.underlying9 f0
    obtain ⟨n1, e1, g1, _⟩ := DataW.trod_int Tryz.underlying2 f1
    obtain ⟨n2, e2, g2, _⟩ := DataW.trod_int Tryz.underlying2 f2
    obtain ⟨n3, e3, g3, _⟩ := DataW.trod_int Tryz.underlying2 f3
    rw [g0] at d0
    rw [g1] at d1
    rw [g2] at d2
    rw [g3] at d3
    simp only [DataW.lit.injEq, Lit.int.injEq, Lit.string.injEq, true_and] at d0 d1 d2 d3
    have k0 := take1 (n := k * 4) e0
    have k1 := take1 (n := k * 4 + 1) e1
    have k2 := take1 (n := k * 4 + 2) e2
    have k3 := take1 (n := k * 4 + 3) e3
    refine ⟨?_, ?_, ?_, ?_⟩
    · rw [hcell, ← Array.getElem?_toList, k0, ← d0]
    · rw [hcell, ← Array.getElem?_toList, k1, ← d1]
    · rw [hcell, ← Array.getElem?_toList, k2, ← d2]
    · rw [hcell, ← Array.getElem?_toList, k3, ← d3]
end Go.Proofs.YtnknnncehcofnaaGreatDoor

namespace Go.Proofs.YtnknnncehcofnaaGreatDoor
open Go.RowKit

def inL (a : Int) (n : Nat) : Bool := decide (0 ≤ a ∧ a < n)

theorem inList (a : Int) (n : Nat) (w : World) (_hn : n ≤ 9223372036854775807) :
    Calls Tryz.prog 86 #[.int .i64 a, .int .i64 (n : Int)] w fun e w' => e = .returned (.bool (inL a n)) ∧ w' = w := by
  by_cases h0 : 0 ≤ a
  · by_cases h1 : a < n
    · have hL : inL a n = true := by simp [inL, h0, h1]
      rw [hL]
      go_enter Tryz.func86, Tryz.ntmps86
      go_wp2
      go_ret
      exact ⟨rfl, rfl⟩
    · have hL : inL a n = false := by simp [inL]; omega
      rw [hL]
      go_enter Tryz.func86, Tryz.ntmps86
      go_wp2
      go_ret
      exact ⟨rfl, rfl⟩
  · have hL : inL a n = false := by simp [inL]; omega
    rw [hL]
    go_enter Tryz.func86, Tryz.ntmps86
    go_wp2
    go_ret
    exact ⟨rfl, rfl⟩

set_option maxHeartbeats 800000 in
theorem rowOf (op : Int) (w : World) (ht : Tab w) :
    Calls Tryz.prog 215 #[.int .i64 op] w fun e w' => e = .returned (.agg #[.string ⟨(opRow op).1.toArray⟩, .int .i64 (opRow op).2.1, .int .i64 (opRow op).2.2.1, .int .i64 (opRow op).2.2.2]) ∧ Below w.heap.size w w' := by
  by_cases h : 0 ≤ op ∧ op < 39
  · have hR : opRow op = opN op.toNat := by unfold opRow; rw [if_pos h]
    rw [hR]
    obtain ⟨k, rfl⟩ := Int.eq_ofNat_of_zero_le h.1
    obtain ⟨c0, c1, c2, c3⟩ := ht.2 k (by omega)
    have hw0 := ht.1
    clear ht hR
    rw [Int.toNat_natCast]
    generalize opN k = r at c0 c1 c2 c3 ⊢
    have hk : k < 39 := by omega
    have hL : inL k 39 = true := by simp [inL]; omega
    clear h
    go_enter Tryz.func215, Tryz.ntmps215
    go_wp2_with fail
    refine (inList k 39 _ (by omega)).mono ?_
    rintro e w1 ⟨rfl, h⟩
    subst w1
    rw [hL]
    go_wp2_with fail
    exact bodyPost_ret (v := .agg #[.string ⟨r.1.toArray⟩, .int .i64 r.2.1, .int .i64 r.2.2.1, .int .i64 r.2.2.2]) (by simp [results, Tryz.results215, go_sem]) rfl ⟨rfl, (Below.refl _ _).alloc (Nat.le_refl _) _⟩
  · have hR : opRow op = ([], 0, 0, 0) := by unfold opRow; rw [if_neg h]
    rw [hR]
    have hL : inL op 39 = false := by simp [inL]; omega
    clear ht
    go_enter Tryz.func215, Tryz.ntmps215
    go_wp2_with fail
    refine (inList op 39 _ (by omega)).mono ?_
    rintro e w1 ⟨rfl, h⟩
    subst w1
    rw [hL]
    go_wp2_with fail
    exact bodyPost_ret (v := .agg #[.string ⟨#[]⟩, .int .i64 0, .int .i64 0, .int .i64 0]) (by simp [results, Tryz.results215, go_sem]) rfl ⟨rfl, (Below.refl _ _).alloc (Nat.le_refl _) _⟩

set_option maxHeartbeats 800000 in
theorem specName (op : Int) (w : World) :
    Calls Tryz.prog 263 #[.int .i64 op] w fun e w' => e = .returned (.string ⟨(opRow op).1.toArray⟩) ∧ Below w.heap.size w w' := by
  by_cases h : 10 ≤ op ∧ op ≤ 38
  · obtain ⟨k, rfl⟩ : ∃ k : Nat, op = (k : Int) + 10 := ⟨(op - 10).toNat, by omega⟩
    have hk : k < 29 := by omega
    clear h
    go_enter Tryz.func263, Tryz.ntmps263
    go_wp2_with fail
    go_ret
    refine ⟨?_, ((Below.refl _ _).alloc (Nat.le_refl _) _).alloc (by simp) _⟩
    match k, hk with
    | 0, _ => rfl | 1, _ => rfl | 2, _ => rfl | 3, _ => rfl | 4, _ => rfl | 5, _ => rfl | 6, _ => rfl | 7, _ => rfl | 8, _ => rfl | 9, _ => rfl | 10, _ => rfl | 11, _ => rfl | 12, _ => rfl | 13, _ => rfl | 14, _ => rfl | 15, _ => rfl | 16, _ => rfl | 17, _ => rfl | 18, _ => rfl | 19, _ => rfl | 20, _ => rfl | 21, _ => rfl | 22, _ => rfl | 23, _ => rfl | 24, _ => rfl | 25, _ => rfl | 26, _ => rfl | 27, _ => rfl | 28, _ => rfl
    | k + 29, h => omega
  · by_cases h5 : 1 ≤ op ∧ op ≤ 5
    · obtain ⟨k, rfl⟩ : ∃ k : Nat, op = (k : Int) + 1 := ⟨(op - 1).toNat, by omega⟩
      have hk : k < 5 := by omega
      clear h h5
      go_enter Tryz.func263, Tryz.ntmps263
      go_wp2_with fail
      go_ret
      refine ⟨?_, ((Below.refl _ _).alloc (Nat.le_refl _) _).alloc (by simp) _⟩
      match k, hk with
      | 0, _ => rfl | 1, _ => rfl | 2, _ => rfl | 3, _ => rfl | 4, _ => rfl
      | k + 5, h => omega
    · have hR : opRow op = ([], 0, 0, 0) := by
        unfold opRow
        split
        · have : op = 0 ∨ op = 6 ∨ op = 7 ∨ op = 8 ∨ op = 9 := by omega
          rcases this with rfl | rfl | rfl | rfl | rfl <;> rfl
        · rfl
      rw [hR]
      go_enter Tryz.func263, Tryz.ntmps263
      go_wp2_with fail
      all_goals
        go_ret
        exact ⟨rfl, ((Below.refl _ _).alloc (Nat.le_refl _) _).alloc (by simp) _⟩
end Go.Proofs.YtnknnncehcofnaaGreatDoor

namespace Go.Proofs.YtnknnncehcofnaaGreatDoor
open Go.RowKit

theorem toIns (x y : Int) (w : World) :
    Calls Tryz.prog 214 #[.agg #[.int .i64 x, .int .i64 y]] w fun e w' => e = .returned (.agg #[.int .i64 x, .int .i64 y]) ∧ Below w.heap.size w w' := by
  go_enter Tryz.func214, Tryz.ntmps214
  go_wp2
  exact bodyPost_ret (v := .agg #[.int .i64 x, .int .i64 y]) (by simp [results, Tryz.results214, go_sem]) rfl ⟨rfl, (((Below.refl _ _).alloc (Nat.le_refl _) _).alloc (by simp) _).alloc (by simp; omega) _⟩

theorem Tryz.infoIns : (Tryz.prog.info? 112).map (fun i => (i.zero, i.size, i.bytes)) = some (some (.agg #[.int .i64 0, .int .i64 0]), 2, 16) := by kernel_rfl
theorem Tryz.infoFn : (Tryz.prog.info? 72).map (fun i => (i.zero, i.size, i.bytes)) = some (some (.agg #[.int .i64 0, .int .i64 0, .slice none 0 0]), 3, 40) := by kernel_rfl

set_option maxRecDepth 100000 in
set_option maxHeartbeats 800000 in
theorem toInsS {B : Nat} (v : Value) (c : List (Int × Int)) (w : World) (hr : InsRow B w v c) (hn : c.length ≤ 1048576) :
    Calls Tryz.prog 174 #[v] w fun e w' => ∃ v', e = .returned v' ∧ InsRow w.heap.size w' v' c ∧ Below w.heap.size w w' := by
  obtain ⟨i0, hi, hz0, hz1, hz2⟩ := info_parts Tryz.infoIns
  have hmk := fun (W : World) => run_makeSlice (P := Tryz.prog) W 70 112 i0 _ Tryz.underlying70 hi hz0 .i64 .i64 c.length c.length (by omega) (by omega) (by rw [hz1]; simp; omega) (by rw [hz2]; omega) (by omega)
  simp only [hz1, Int.toNat_natCast] at hmk
  have Hr : Hid (InsRow B w v c) := hr
  obtain ⟨A, cap, rfl, _, hc⟩ := hr
  clear hc
  go_enter Tryz.func174, Tryz.ntmps174
  go_wp2
  clear hmk
  go_loopw [4] (fun i wr => ∃ k : Nat, k ≤ c.length ∧ i = .int .i64 k ∧ Slots wr w.heap.size (c.length * 2) ∧ Below w.heap.size w wr ∧
      ∀ j (h : j < c.length), j < k → wr.cell? ⟨w.heap.size, j * 2, none⟩ = some (.int .i64 c[j].1) ∧ wr.cell? ⟨w.heap.size, j * 2 + 1, none⟩ = some (.int .i64 c[j].2))
    (fun i _ => c.length - (intOf i).toNat)
  case atStart =>
    refine ⟨0, Nat.zero_le _, rfl, ?_, (Below.refl _ _).alloc (Nat.le_refl _) _, fun j _ h => by omega⟩
    have := slots_new w (madeCells #[Value.int .i64 0, Value.int .i64 0] (c.length * 2)) 112
    rwa [size_madeCells] at this
  case round =>
    obtain ⟨k, hk, rfl, hs, hb, hcs⟩ := hrel
    by_cases hkl : k < c.length
    · obtain ⟨A', cap', he, _, hc⟩ := Hr.out.below hb
      simp only [Value.slice.injEq] at he
      obtain ⟨rfl, _, rfl⟩ := he
      obtain ⟨b, off, rfl, _, hlt, c0, c1⟩ := hc k hkl
      have Hb : Hid (Below w.heap.size w wr) := hb
      have Hs : Hid (Slots wr w.heap.size (c.length * 2)) := hs
      have Hcs : Hid (∀ j (h : j < c.length), j < k → wr.cell? ⟨w.heap.size, j * 2, none⟩ = some (.int .i64 c[j].1) ∧ wr.cell? ⟨w.heap.size, j * 2 + 1, none⟩ = some (.int .i64 c[j].2)) := hcs
      clear hc hb hs hcs
      go_wp2_with fail
      refine (toIns _ _ _).mono ?_
      rintro e w1 ⟨rfl, hb1⟩
      have Hb1 : Hid (Below wr.heap.size wr w1) := hb1
      have Hs1 : Hid (Slots w1 w.heap.size (c.length * 2)) := Hs.out.below hb1
      have hw0 : w.heap.size < w1.heap.size := Hs1.out.1
      obtain ⟨⟨z0, hz0⟩, f0⟩ := Hs1.out.2 (k * 2) (by omega)
      obtain ⟨⟨z1, hz1⟩, f1⟩ := Hs1.out.2 (k * 2 + 1) (by omega)
      clear hb1 c0 c1
      go_wp2_with fail
      go_roundw
      case rel =>
        refine ⟨k + 1, by omega, by go_num, (Hs1.out.set _ _).set _ _, ((Hb.out.trans (Hb1.out.mono Hb.out.size)).setCell (by simp) _).setCell (by simp) _, ?_⟩
        intro j hj hjk
        by_cases he : j = k
        · subst he
          exact ⟨by rw [cell_set_far _ _ _ _ _ (by omega), cell_set_at Hs1.out (by omega)], by rw [cell_set_at (Hs1.out.set _ _) (by omega)]⟩
        · have h1 := Hcs.out j hj (by omega)
          exact ⟨by rw [cell_set_far _ _ _ _ _ (by omega), cell_set_far _ _ _ _ _ (by omega), Hb1.out.cell (by exact Hs.out.1)]; exact h1.1, by rw [cell_set_far _ _ _ _ _ (by omega), cell_set_far _ _ _ _ _ (by omega), Hb1.out.cell (by exact Hs.out.1)]; exact h1.2⟩
      case measure => simp [intOf]; omega
    · go_wp2
      go_ret
      refine ⟨_, rfl, ⟨_, _, rfl, by omega, fun i hi => ⟨w.heap.size, 0, rfl, Nat.le_refl _, hs.1, ?_⟩⟩, hb⟩
      simpa using hcs i hi (by omega)

set_option maxHeartbeats 800000 in
theorem toFn {B : Nat} (x y : Int) (v : Value) (c : List (Int × Int)) (w : World) (hr : InsRow B w v c) (hn : c.length ≤ 1048576) :
    Calls Tryz.prog 114 #[.agg #[.int .i64 x, .int .i64 y, v]] w fun e w' => ∃ v', e = .returned (.agg #[.int .i64 x, .int .i64 y, v']) ∧ InsRow w.heap.size w' v' c ∧ Below w.heap.size w w' := by
  have Hr : Hid (InsRow B w v c) := hr
  obtain ⟨A, cap, rfl, _, hc⟩ := hr
  clear hc
  go_enter Tryz.func114, Tryz.ntmps114
  go_wp2_with fail
  refine (toInsS _ c _ (Hr.out.below ((((Below.refl _ _).alloc (Nat.le_refl _) _).alloc (by simp) _).alloc (by simp; omega) _)) hn).mono ?_
  rintro e w1 ⟨v', rfl, hi1, hb1⟩
  have Hi : Hid (InsRow (w.heap.size + 1 + 1 + 1) w1 v' c) := hi1.lower (by simp)
  obtain ⟨A', cap', rfl⟩ := hi1.form
  obtain ⟨h1, h2, hz, hb⟩ := last_two hb1
  have Hb : Hid (Below w.heap.size w w1) := hb
  clear hb hb1 hi1
  obtain ⟨p0, q0⟩ := h1 0
  obtain ⟨p1, q1⟩ := h1 1
  obtain ⟨p2, q2⟩ := h1 2
  obtain ⟨r0, s0⟩ := h2 0
  obtain ⟨r1, s1⟩ := h2 1
  obtain ⟨r2, s2⟩ := h2 2
  simp at p0 p1 p2 r0 r1 r2
  clear h1 h2
  go_wp2_with fail
  exact bodyPost_ret (v := .agg #[.int .i64 x, .int .i64 y, .slice A' c.length cap']) (by simp [results, Tryz.results114, go_sem, p0, p1, p2]) rfl
    ⟨_, rfl, ((((Hi.out.set (by simp) _).set (by simp) _).set (by simp) _).set (by simp) _).lower (by omega), (((Hb.out.setCell (by simp; omega) _).setCell (by simp) _).setCell (by simp) _).setCell (by simp) _⟩

set_option maxRecDepth 100000 in
set_option maxHeartbeats 800000 in
theorem toFns {B : Nat} (v : Value) (p : List FnM) (w : World) (hr : FnRow B w v p) (hn : bulk p ≤ 1048576) :
    Calls Tryz.prog 57 #[v] w fun e w' => ∃ v', e = .returned v' ∧ FnRow w.heap.size w' v' p ∧ Below w.heap.size w w' := by
  have hl : p.length ≤ 1048576 := by unfold bulk at hn; omega
  obtain ⟨i0, hi, hz0, hz1, hz2⟩ := info_parts Tryz.infoFn
  have hmk := fun (W : World) => run_makeSlice (P := Tryz.prog) W 23 72 i0 _ Tryz.underlying23 hi hz0 .i64 .i64 p.length p.length (by omega) (by omega) (by rw [hz1]; simp; omega) (by rw [hz2]; omega) (by omega)
  simp only [hz1, Int.toNat_natCast] at hmk
  have Hr : Hid (FnRow B w v p) := hr
  obtain ⟨A, cap, rfl, _, hc⟩ := hr
  clear hc
  go_enter Tryz.func57, Tryz.ntmps57
  go_wp2
  clear hmk
  go_loopw [4] (fun i wr => ∃ k : Nat, k ≤ p.length ∧ i = .int .i64 k ∧ Slots wr w.heap.size (p.length * 3) ∧ Below w.heap.size w wr ∧
      ∀ j (h : j < p.length), j < k → ∃ x, wr.cell? ⟨w.heap.size, j * 3, none⟩ = some (.int .i64 p[j].args) ∧ wr.cell? ⟨w.heap.size, j * 3 + 1, none⟩ = some (.int .i64 p[j].locals) ∧ wr.cell? ⟨w.heap.size, j * 3 + 2, none⟩ = some x ∧ InsRow (w.heap.size + 1) wr x p[j].code)
    (fun i _ => p.length - (intOf i).toNat)
  case atStart =>
    refine ⟨0, Nat.zero_le _, rfl, ?_, (Below.refl _ _).alloc (Nat.le_refl _) _, fun j _ h => by omega⟩
    have := slots_new w (madeCells #[Value.int .i64 0, Value.int .i64 0, Value.slice none 0 0] (p.length * 3)) 72
    rwa [size_madeCells] at this
  case round =>
    obtain ⟨k, hk, rfl, hs, hb, hcs⟩ := hrel
    by_cases hkl : k < p.length
    · obtain ⟨A', cap', he, _, hc⟩ := Hr.out.below hb
      simp only [Value.slice.injEq] at he
      obtain ⟨rfl, _, rfl⟩ := he
      obtain ⟨b, off, x, rfl, _, hlt, c0, c1, c2, hx⟩ := hc k hkl
      have Hx : Hid (InsRow B wr x p[k].code) := hx
      have Hb : Hid (Below w.heap.size w wr) := hb
      have Hs : Hid (Slots wr w.heap.size (p.length * 3)) := hs
      have Hcs : Hid (∀ j (h : j < p.length), j < k → ∃ x, wr.cell? ⟨w.heap.size, j * 3, none⟩ = some (.int .i64 p[j].args) ∧ wr.cell? ⟨w.heap.size, j * 3 + 1, none⟩ = some (.int .i64 p[j].locals) ∧ wr.cell? ⟨w.heap.size, j * 3 + 2, none⟩ = some x ∧ InsRow (w.heap.size + 1) wr x p[j].code) := hcs
      clear hc hb hs hcs hx
      go_wp2_with fail
      refine (toFn _ _ x p[k].code _ Hx.out (Nat.le_trans (code_le_bulk p k hkl) hn)).mono ?_
      rintro e w1 ⟨v1, rfl, hi1, hb1⟩
      have Hb1 : Hid (Below wr.heap.size wr w1) := hb1
      have Hs1 : Hid (Slots w1 w.heap.size (p.length * 3)) := Hs.out.below hb1
      have hw0 : w.heap.size < w1.heap.size := Hs1.out.1
      have Hi1 : Hid (InsRow (w.heap.size + 1) w1 v1 p[k].code) := hi1.lower Hs.out.1
      obtain ⟨A1, cap1, rfl⟩ := hi1.form
      obtain ⟨⟨z0, hz0⟩, f0⟩ := Hs1.out.2 (k * 3) (by omega)
      obtain ⟨⟨z1, hz1⟩, f1⟩ := Hs1.out.2 (k * 3 + 1) (by omega)
      obtain ⟨⟨z2, hz2⟩, f2⟩ := Hs1.out.2 (k * 3 + 2) (by omega)
      clear hb1 c0 c1 c2 hi1
      go_wp2_with fail
      go_roundw
      case rel =>
        refine ⟨k + 1, by omega, by go_num, ((Hs1.out.set _ _).set _ _).set _ _, (((Hb.out.trans (Hb1.out.mono Hb.out.size)).setCell (by simp) _).setCell (by simp) _).setCell (by simp) _, ?_⟩
        intro j hj hjk
        by_cases he : j = k
        · subst he
          exact ⟨_, by rw [cell_set_far _ _ _ _ _ (by omega), cell_set_far _ _ _ _ _ (by omega), cell_set_at Hs1.out (by omega)], by rw [cell_set_far _ _ _ _ _ (by omega), cell_set_at (Hs1.out.set _ _) (by omega)], cell_set_at ((Hs1.out.set _ _).set _ _) (by omega) _,
            ((Hi1.out.set (by simp) _).set (by simp) _).set (by simp) _⟩
        · obtain ⟨x, h0, h1, h2, h3⟩ := Hcs.out j hj (by omega)
          refine ⟨x, ?_, ?_, ?_, (((h3.below Hb1.out).set (by simp) _).set (by simp) _).set (by simp) _⟩
          · rw [cell_set_far _ _ _ _ _ (by omega), cell_set_far _ _ _ _ _ (by omega), cell_set_far _ _ _ _ _ (by omega), Hb1.out.cell (by exact Hs.out.1)]; exact h0
          · rw [cell_set_far _ _ _ _ _ (by omega), cell_set_far _ _ _ _ _ (by omega), cell_set_far _ _ _ _ _ (by omega), Hb1.out.cell (by exact Hs.out.1)]; exact h1
          · rw [cell_set_far _ _ _ _ _ (by omega), cell_set_far _ _ _ _ _ (by omega), cell_set_far _ _ _ _ _ (by omega), Hb1.out.cell (by exact Hs.out.1)]; exact h2
      case measure => simp [intOf]; omega
    · go_wp2
      go_ret
      refine ⟨_, rfl, ⟨_, _, rfl, by omega, fun i hi => ?_⟩, hb⟩
      obtain ⟨x, h0, h1, h2, h3⟩ := hcs i hi (by omega)
      exact ⟨w.heap.size, 0, x, rfl, Nat.le_refl _, hs.1, by simpa using h0, by simpa using h1, by simpa using h2, h3.lower (by omega)⟩

set_option maxHeartbeats 800000 in
theorem toPrg {B : Nat} (v : Value) (p : List FnM) (w : World) (hr : FnRow B w v p) (hn : bulk p ≤ 1048576) :
    Calls Tryz.prog 16 #[.agg #[v]] w fun e w' => ∃ v', e = .returned (.agg #[v']) ∧ FnRow w.heap.size w' v' p ∧ Below w.heap.size w w' := by
  have Hr : Hid (FnRow B w v p) := hr
  obtain ⟨A, cap, rfl, _, hc⟩ := hr
  clear hc
  go_enter Tryz.func16, Tryz.ntmps16
  go_wp2_with fail
  refine (toFns _ p _ (Hr.out.below ((((Below.refl _ _).alloc (Nat.le_refl _) _).alloc (by simp) _).alloc (by simp; omega) _)) hn).mono ?_
  rintro e w1 ⟨v', rfl, hi1, hb1⟩
  have Hi : Hid (FnRow (w.heap.size + 1 + 1 + 1) w1 v' p) := hi1.lower (by simp)
  obtain ⟨A', cap', rfl⟩ := hi1.form
  obtain ⟨h1, h2, hz, hb⟩ := last_two hb1
  have Hb : Hid (Below w.heap.size w w1) := hb
  clear hb hb1 hi1
  obtain ⟨p0, q0⟩ := h1 0
  obtain ⟨r0, s0⟩ := h2 0
  simp at p0 r0
  clear h1 h2
  go_wp2_with fail
  exact bodyPost_ret (v := .agg #[.slice A' p.length cap']) (by simp [results, Tryz.results16, go_sem, p0]) rfl
    ⟨_, rfl, ((Hi.out.set (by simp) _).set (by simp) _).lower (by omega), (Hb.out.setCell (by simp; omega) _).setCell (by simp) _⟩
end Go.Proofs.YtnknnncehcofnaaGreatDoor

namespace Go.Proofs.YtnknnncehcofnaaGreatDoor
open Go.RowKit Go.ChangeShapes Go.WideShapes Go.ChangeAt Go.Deep
set_option maxRecDepth 100000

/-- a number of 64 bits -/
def I64 (x : Int) : Prop := -9223372036854775808 ≤ x ∧ x ≤ 9223372036854775807
/-- all numbers of a function -/
def FnM.ok (f : FnM) : Prop := I64 f.args ∧ I64 f.locals ∧ ∀ i ∈ f.code, I64 i.1 ∧ I64 i.2

def IsI64 (_ : World) (v : Value) : Prop := ∃ x, v = .int .i64 x ∧ I64 x
def IsIns (_ : World) (v : Value) : Prop := ∃ x y, v = .agg #[.int .i64 x, .int .i64 y] ∧ I64 x ∧ I64 y
def IsFunc (w : World) (v : Value) : Prop := ∃ x y u c, v = .agg #[.int .i64 x, .int .i64 y, u] ∧ InsRow 0 w u c ∧ FnM.ok ⟨x, y, c⟩
def IsProgram (w : World) (v : Value) : Prop := ∃ u p, v = .agg #[u] ∧ FnRow 0 w u p ∧ ∀ f ∈ p, f.ok

section
variable {H : Type} {enc : TypeId × Value → H} {W : World} {r : Reach} {base : Nat} {v : Value} {d : DataW H} {p : List MemPlace}

theorem inI64 (hv : Value.okWide Tryz.prog W r base 2 v) (h : DataW.Trod enc Tryz.prog W 0 (fun _ => true) true 2 v d p) : IsI64 W v := by
  obtain ⟨x, rfl, _, _, hw⟩ := open_int Tryz.underlying2 hv h
  exact ⟨x, rfl, Go.bounds_i64 hw⟩

theorem int_of {fuel : Nat} {x : DataW H × List MemPlace} (h : DataW.trod enc Tryz.prog W 0 (fun _ => true) true fuel 2 [v] = some x) : ∃ n, v = .int .i64 n ∧ I64 n := by
  obtain ⟨n, hc, _, hw⟩ := DataW.trod_int Tryz.underlying2 h
  simp only [List.cons.injEq, and_true] at hc
  exact ⟨n, hc, Go.bounds_i64 hw⟩

theorem inIns (hv : Value.okWide Tryz.prog W r base 248 v) (h : DataW.Trod enc Tryz.prog W 0 (fun _ => true) true 248 v d p) : IsIns W v := by
  obtain ⟨v0, v1, y0, y1, n, rfl, _, _, h0, h1⟩ := Go.Joins.open_agg2 Tryz.underlying248 (by kernel_rfl) (by kernel_rfl) hv h
  obtain ⟨x, rfl, hx⟩ := int_of h0
  obtain ⟨y, rfl, hy⟩ := int_of h1
  exact ⟨x, y, rfl, hx, hy⟩

/-- an address of which a cell is told lies at no spot -/
theorem plain_addr {a : Addr} {u : Value} (h : W.cell? (a.add 0) = some u) : ∃ b off, a = ⟨b, off, none⟩ ∧ b < W.heap.size := by
  obtain ⟨b, off, spot⟩ := a
  have hs : spot = none := by simpa [Addr.add] using World.cell?_spot h
  subst hs
  exact ⟨b, off, rfl, World.block_lt_of_cell? W _ (by simpa [Addr.add] using h)⟩

theorem plain_add (b off i : Nat) : (⟨b, off, none⟩ : Addr).add i = ⟨b, off + i, none⟩ := by simp [Addr.add]

theorem insRow_of {fuel : Nat} {x : DataW H × List MemPlace} (h : DataW.trod enc Tryz.prog W 0 (fun _ => true) true fuel 153 [v] = some x) : ∃ c, InsRow 0 W v c ∧ ∀ i ∈ c, I64 i.1 ∧ I64 i.2 := by
  rcases open_slice_pairs Tryz.underlying153 Tryz.underlying248 (by kernel_rfl) rfl rfl (by kernel_rfl) (by kernel_rfl) h with ⟨hc, _⟩ | ⟨a, len, cap, m, n, V0, V1, D0, D1, P0, P1, hc, _, hl, hm, hmm, _, hx⟩
  · simp only [List.cons.injEq, and_true] at hc
    subst hc
    exact ⟨[], ⟨none, 0, rfl, by simp, fun i hi => absurd hi (Nat.not_lt_zero _)⟩, fun i hi => by simp at hi⟩
  · simp only [List.cons.injEq, and_true] at hc
    subst hc
    simp only [if_true] at hmm
    subst hmm
    obtain ⟨q, hq⟩ := choose_lt (α := Int × Int) (p := fun i q => V0 i = .int .i64 q.1 ∧ V1 i = .int .i64 q.2 ∧ I64 q.1 ∧ I64 q.2) (fun i hi => by
      obtain ⟨_, _, t0, t1⟩ := hx i hi
      obtain ⟨y, h0, hy⟩ := int_of t0
      obtain ⟨z, h1, hz⟩ := int_of t1
      exact ⟨(y, z), h0, h1, hy, hz⟩)
    refine ⟨(List.range len).map q, ⟨some a, m, by simp, by simp; unfold maxLen at hm; omega, fun i hi => ?_⟩, fun i hi => ?_⟩
    · have hi' : i < len := by simpa using hi
      obtain ⟨c0, _, _, _⟩ := hx 0 (by omega)
      obtain ⟨b, off, rfl, hlt⟩ := plain_addr (by simpa using c0)
      obtain ⟨e0, e1, _, _⟩ := hx i (by omega)
      obtain ⟨q0, q1, _, _⟩ := hq i (by omega)
      rw [plain_add] at e0 e1
      exact ⟨b, off, rfl, Nat.zero_le _, hlt, by simpa [q0] using e0, by simpa [q1, Nat.add_assoc] using e1⟩
    · obtain ⟨j, hj, rfl⟩ := List.mem_map.1 hi
      obtain ⟨_, _, q0, q1⟩ := hq j (by have := List.mem_range.1 hj; omega)
      exact ⟨q0, q1⟩

theorem fn_of {fuel : Nat} {cs : List Value} {x : DataW H × List MemPlace} (h : DataW.trod enc Tryz.prog W 0 (fun _ => true) true fuel 155 cs = some x) : ∃ x y u c, cs = [.int .i64 x, .int .i64 y, u] ∧ InsRow 0 W u c ∧ FnM.ok ⟨x, y, c⟩ := by
  obtain ⟨y0, y1, y2, n, _, hlen, h0, h1, h2⟩ := trod_struct3 Tryz.underlying155 h
  rw [show Tryz.prog.cellsOf 155 = 3 by kernel_rfl] at hlen
  match cs, hlen with
  | [v0, v1, v2], _ =>
    obtain ⟨x, rfl, hx⟩ := int_of (show DataW.trod enc Tryz.prog W 0 (fun _ => true) true n 2 [v0] = some y0 from h0)
    obtain ⟨y, rfl, hy⟩ := int_of (show DataW.trod enc Tryz.prog W 0 (fun _ => true) true n 2 [v1] = some y1 from h1)
    obtain ⟨c, hc, hok⟩ := insRow_of (show DataW.trod enc Tryz.prog W 0 (fun _ => true) true n 153 [v2] = some y2 from h2)
    exact ⟨x, y, v2, c, rfl, hc, hx, hy, hok⟩

theorem inFunc (hv : Value.okWide Tryz.prog W r base 155 v) (h : DataW.Trod enc Tryz.prog W 0 (fun _ => true) true 155 v d p) : IsFunc W v := by
  obtain ⟨cs, rfl, hsz⟩ := okWide_struct Tryz.underlying155 hv
  obtain ⟨fuel, hf⟩ := h
  obtain ⟨x, y, u, c, hc, hr, hok⟩ := fn_of hf
  refine ⟨x, y, u, c, ?_, hr, hok⟩
  obtain ⟨l⟩ := cs
  simp [Value.cells] at hc
  subst hc
  rfl

theorem fnRow_of {fuel : Nat} {x : DataW H × List MemPlace} (h : DataW.trod enc Tryz.prog W 0 (fun _ => true) true fuel 34 [v] = some x) : ∃ p, FnRow 0 W v p ∧ ∀ f ∈ p, f.ok := by
  rcases open_slice Tryz.underlying34 h with ⟨hc, _⟩ | ⟨a, len, cap, m, n, D, Pl, hc, _, hl, hm, hmm, _, hx⟩
  · simp only [List.cons.injEq, and_true] at hc
    subst hc
    exact ⟨[], ⟨none, 0, rfl, by simp, fun i hi => absurd hi (Nat.not_lt_zero _)⟩, fun i hi => by simp at hi⟩
  · simp only [List.cons.injEq, and_true] at hc
    subst hc
    simp only [if_true] at hmm
    subst hmm
    have hC : Tryz.prog.cellsOf 155 = 3 := by kernel_rfl
    rw [hC] at hx
    obtain ⟨q, hq⟩ := choose_lt (α := Int × Int × Value × List (Int × Int)) (p := fun i q => W.cell? (a.add (i * 3)) = some (.int .i64 q.1) ∧ W.cell? (a.add (i * 3 + 1)) = some (.int .i64 q.2.1) ∧ W.cell? (a.add (i * 3 + 2)) = some q.2.2.1 ∧ InsRow 0 W q.2.2.1 q.2.2.2 ∧ FnM.ok ⟨q.1, q.2.1, q.2.2.2⟩) (fun i hi => by
      obtain ⟨cs, h1, h2⟩ := hx i hi
      obtain ⟨x, y, u, c, rfl, hr, hok⟩ := fn_of h2
      obtain ⟨_, _, hcell⟩ := World.cells?_some h1
      have e0 := hcell 0 (by omega)
      have e1 := hcell 1 (by omega)
      have e2 := hcell 2 (by omega)
      rw [add_add] at e0 e1 e2
      exact ⟨(x, y, u, c), by simpa using e0, by simpa using e1, by simpa using e2, hr, hok⟩)
    refine ⟨(List.range len).map fun i => ⟨(q i).1, (q i).2.1, (q i).2.2.2⟩, ⟨some a, m, by simp, by simp; unfold maxLen at hm; omega, fun i hi => ?_⟩, fun i hi => ?_⟩
    · have hi' : i < len := by simpa using hi
      obtain ⟨c0, _, _, _⟩ := hq 0 (by omega)
      obtain ⟨b, off, rfl, hlt⟩ := plain_addr (by simpa using c0)
      obtain ⟨e0, e1, e2, hr, _⟩ := hq i (by omega)
      rw [plain_add] at e0 e1 e2
      exact ⟨b, off, (q i).2.2.1, rfl, Nat.zero_le _, hlt, by simpa using e0, by simpa [Nat.add_assoc] using e1, by simpa [Nat.add_assoc] using e2, by simpa using hr⟩
    · obtain ⟨j, hj, rfl⟩ := List.mem_map.1 hi
      exact (hq j (by have := List.mem_range.1 hj; omega)).2.2.2.2

theorem inProgram (hv : Value.okWide Tryz.prog W r base 36 v) (h : DataW.Trod enc Tryz.prog W 0 (fun _ => true) true 36 v d p) : IsProgram W v := by
  obtain ⟨cs, rfl, hsz⟩ := okWide_struct Tryz.underlying36 hv
  rw [show Tryz.prog.cellsOf 36 = 1 by kernel_rfl] at hsz
  obtain ⟨fuel, hf⟩ := h
  obtain ⟨xs, n, _, _, _, hxl, hfd⟩ := DataW.trod_struct Tryz.underlying36 hf
  have f0 := hfd 0 _ rfl
  obtain ⟨l⟩ := cs
  match l, hsz, xs, hxl with
  | [u], _, [y0], _ =>
    obtain ⟨q, hq, hok⟩ := fnRow_of (show DataW.trod enc Tryz.prog W 0 (fun _ => true) true n 34 [u] = some y0 from f0)
    exact ⟨u, q, rfl, hq, hok⟩
end
end Go.Proofs.YtnknnncehcofnaaGreatDoor

namespace Go.Proofs.YtnknnncehcofnaaGreatDoor
open Go.RowKit

theorem opRow_of (op : Int) {P : List UInt8 × Int × Int × Int → Prop} (h0 : ¬ (0 ≤ op ∧ op < 39) → P ([], 0, 0, 0)) (h1 : ∀ k : Nat, k < 39 → op = k → P (opN k)) : P (opRow op) := by
  unfold opRow
  split
  · rename_i h
    exact h1 op.toNat (by omega) (by omega)
  · rename_i h
    exact h0 h

def isBin (op : Int) : Bool := decide (10 ≤ op ∧ op ≤ 23)
def isUn (op : Int) : Bool := decide (24 ≤ op ∧ op ≤ 29)

theorem specBin (op : Int) (w : World) : Calls Tryz.prog 169 #[.int .i64 op] w fun e w' => e = .returned (.bool (isBin op)) ∧ w' = w := by
  have hq : isBin op = (decide (10 ≤ op) && decide (op ≤ 23)) := by simp [isBin]
  rw [hq]
  by_cases h : 10 ≤ op
  · go_enter Tryz.func169, Tryz.ntmps169
    go_wp2
    go_ret
    exact ⟨by simp [h], rfl⟩
  · have h' : decide (10 ≤ op) = false := by simpa using h
    go_enter Tryz.func169, Tryz.ntmps169
    go_wp2
    go_ret
    exact ⟨by simp, rfl⟩

theorem specUn (op : Int) (w : World) : Calls Tryz.prog 170 #[.int .i64 op] w fun e w' => e = .returned (.bool (isUn op)) ∧ w' = w := by
  have hq : isUn op = (decide (24 ≤ op) && decide (op ≤ 29)) := by simp [isUn]
  rw [hq]
  by_cases h : 24 ≤ op
  · go_enter Tryz.func170, Tryz.ntmps170
    go_wp2
    go_ret
    exact ⟨by simp [h], rfl⟩
  · have h' : decide (24 ≤ op) = false := by simpa using h
    go_enter Tryz.func170, Tryz.ntmps170
    go_wp2
    go_ret
    exact ⟨by simp, rfl⟩

/-- what the fields of a row are -/
theorem rowField (s : ByteArray) (a b c : Int) (W : World) :
    (Instr.field 250 (.agg #[.string s, .int .i64 a, .int .i64 b, .int .i64 c]) 3).run Tryz.prog W = .ok (.int .i64 c) W := by kernel_rfl

set_option maxHeartbeats 800000 in
theorem implPuts (op a : Int) (w : World) (ht : Tab w) :
    Calls Tryz.prog 210 #[.agg #[.int .i64 op, .int .i64 a]] w fun e w' => e = .returned (.int .i64 (opRow op).2.2.2) ∧ Below w.heap.size w w' := by
  have ht' : ∀ o, Tab (w.alloc o) := fun o => ht.below ((Below.refl _ _).alloc (Nat.le_refl _) _)
  have Ht : Hid (∀ o, Tab (w.alloc o)) := ht'
  clear ht ht'
  go_enter Tryz.func210, Tryz.ntmps210
  go_wp2_with fail
  refine (rowOf op _ (Ht.out _)).mono ?_
  rintro e w1 ⟨rfl, hb⟩
  have Hb : Hid (Below w.heap.size w w1) := ((Below.refl _ _).alloc (Nat.le_refl _) _).trans (hb.mono (by simp))
  clear hb
  have hf := rowField
  go_wp2_with fail
  go_ret
  exact ⟨rfl, Hb.out⟩

theorem puts_bin (op : Int) (h : isBin op = true ∨ isUn op = true) : (opRow op).2.2.2 = 1 := by
  have h1 : 10 ≤ op ∧ op ≤ 29 := by simp [isBin, isUn] at h; omega
  obtain ⟨k, rfl⟩ := Int.eq_ofNat_of_zero_le (show 0 ≤ op by omega)
  have : ∀ k : Fin 39, 10 ≤ k.1 → k.1 ≤ 29 → (opRow (k.1 : Int)).2.2.2 = 1 := by decide
  exact this ⟨k, by omega⟩ (by show 10 ≤ k; omega) (by show k ≤ 29; omega)

theorem puts_one (op : Int) (h : op = 1 ∨ op = 2 ∨ op = 32 ∨ op = 34 ∨ op = 35 ∨ op = 37) : (opRow op).2.2.2 = 1 := by
  rcases h with rfl | rfl | rfl | rfl | rfl | rfl <;> rfl

theorem puts_none (op : Int) (h : isBin op = false) (h' : isUn op = false) (h4 : op ≠ 4) (h1 : ¬ (op = 1 ∨ op = 2 ∨ op = 32 ∨ op = 34 ∨ op = 35 ∨ op = 37)) : (opRow op).2.2.2 = 0 := by
  simp only [isBin, isUn, decide_eq_false_iff_not] at h h'
  refine opRow_of op (P := fun r => r.2.2.2 = 0) (fun _ => rfl) (fun k hk he => ?_)
  subst he
  have : ∀ k : Fin 39, ¬ (10 ≤ k.1 ∧ k.1 ≤ 29) → k.1 ≠ 4 → ¬ (k.1 = 1 ∨ k.1 = 2 ∨ k.1 = 32 ∨ k.1 = 34 ∨ k.1 = 35 ∨ k.1 = 37) → (opN k.1).2.2.2 = 0 := by decide
  exact this ⟨k, hk⟩ (by show ¬ (10 ≤ k ∧ k ≤ 29); omega) (by show k ≠ 4; omega) (by show ¬ (k = 1 ∨ k = 2 ∨ k = 32 ∨ k = 34 ∨ k = 35 ∨ k = 37); omega)

set_option maxHeartbeats 800000 in
theorem specPuts (op a : Int) (w : World) :
    Calls Tryz.prog 113 #[.agg #[.int .i64 op, .int .i64 a]] w fun e w' => e = .returned (.int .i64 (opRow op).2.2.2) ∧ Below w.heap.size w w' := by
  go_enter Tryz.func113, Tryz.ntmps113
  go_wp2_with fail
  refine (specBin op _).mono ?_
  rintro e w1 ⟨rfl, h⟩
  subst w1
  by_cases hB : isBin op = true
  · have hp := puts_bin op (.inl hB)
    rw [hB]
    go_wp2_with fail
    go_ret
    exact ⟨by rw [hp]; rfl, (Below.refl _ _).alloc (Nat.le_refl _) _⟩
  · have hB' : isBin op = false := by simpa using hB
    rw [hB']
    go_wp2_with fail
    refine (specUn op _).mono ?_
    rintro e w1 ⟨rfl, h⟩
    subst w1
    by_cases hU : isUn op = true
    · have hp := puts_bin op (.inr hU)
      rw [hU]
      go_wp2_with fail
      go_ret
      exact ⟨by rw [hp]; rfl, (Below.refl _ _).alloc (Nat.le_refl _) _⟩
    · have hU' : isUn op = false := by simpa using hU
      rw [hU']
      by_cases h4 : op = 4
      · subst h4
        go_wp2_with fail
        go_ret
        exact ⟨rfl, (Below.refl _ _).alloc (Nat.le_refl _) _⟩
      · by_cases h1 : op = 1 ∨ op = 2 ∨ op = 32 ∨ op = 34 ∨ op = 35 ∨ op = 37
        · have hp := puts_one op h1
          clear hB hU hB' hU' h4
          rcases h1 with rfl | rfl | rfl | rfl | rfl | rfl
          all_goals
            go_wp2_with fail
            go_ret
            exact ⟨rfl, (Below.refl _ _).alloc (Nat.le_refl _) _⟩
        · have Hp : Hid ((opRow op).2.2.2 = 0) := puts_none op hB' hU' h4 h1
          simp only [not_or] at h1
          obtain ⟨n1, n2, n3, n4, n5, n6⟩ := h1
          have e0 : (op == 4) = false := by simpa using h4
          have e1 : (op == 1) = false := by simpa using n1
          have e2 : (op == 2) = false := by simpa using n2
          have e3 : (op == 32) = false := by simpa using n3
          have e4 : (op == 34) = false := by simpa using n4
          have e5 : (op == 35) = false := by simpa using n5
          have e6 : (op == 37) = false := by simpa using n6
          go_wp2_with fail
          go_ret
          exact ⟨by rw [Hp.out]; rfl, (Below.refl _ _).alloc (Nat.le_refl _) _⟩

end Go.Proofs.YtnknnncehcofnaaGreatDoor
