/- laws.eqInt64S, markInt64S, heldInt64S; markProgram and what it calls. laws.eqState and what it calls, of two states that read the same. laws.eqState, of two states that read the same; a state in a box. -/
import Derived.Test.YtnknnncehcofnaaGreatDoorJ0Prg
import Derived.Deep.LoopGhost
import Derived.Deep.CutRange
import Derived.Deep.QuietTactic
import Derived.BigQuiet
import Derived.Deep.RegionHeld3
import Derived.Deep.DeepCutAuto
namespace Go.Proofs.YtnknnncehcofnaaGreatDoor
open Go.RowKit

set_option maxHeartbeats 800000 in
theorem eqInts {B C : Nat} (v u : Value) (zs : List Int) (w : World) (hr : IRow B w v zs) (ht : IRow C w u zs) :
    Calls Tryz.prog 31 #[v, u] w fun e w' => e = .returned (.bool true) ∧ Below w.heap.size w w' := by
  have Hr : Hid (IRow B w v zs) := hr
  have Ht : Hid (IRow C w u zs) := ht
  obtain ⟨A, cap, rfl⟩ := hr.form
  obtain ⟨D, dap, rfl⟩ := ht.form
  have hl := hr.len
  clear hr ht
  go_enter Tryz.func31, Tryz.ntmps31
  go_wp2
  go_loopg [5] (zs.length) (fun g i wr => ∃ k : Nat, k ≤ zs.length ∧ i = .int .i64 k ∧ zs.length ≤ k + g ∧ Below w.heap.size w wr)
  case atStart => exact ⟨0, Nat.zero_le _, rfl, by omega, Below.refl _ _⟩
  case round =>
    obtain ⟨k, hk, rfl, hkg, hb⟩ := hrel
    have Hb : Hid (Below w.heap.size w wr) := hb
    clear hb
    by_cases hkl : k < zs.length
    · obtain ⟨b, off, rfl, _, hlt, c0⟩ := (Hr.out.below Hb.out).at k hkl
      obtain ⟨b', off', rfl, _, hlt', d0⟩ := (Ht.out.below Hb.out).at k hkl
      go_upto_region 6 with fail
      go_quiet (fail)
      go_wp2_with fail
      go_roundg (gk - 1)
      case measure => omega
      case rel => exact ⟨k + 1, by omega, by go_num, by omega, below_drewN Hb.out _⟩
    · go_wp2_with fail
      go_ret
      exact ⟨rfl, Hb.out⟩

/-- k, k + 1, .. -/
def marks (n : Nat) (k : Nat) : List Int := (List.range n).map fun (j : Nat) => ((k + j : Nat) : Int)
theorem marks_length (n k : Nat) : (marks n k).length = n := by simp [marks]
theorem marks_getD (n k j : Nat) (h : j < n) : (marks n k).getD j 0 = ((k + j : Nat) : Int) := by simp [marks, List.getD, h]

set_option maxHeartbeats 800000 in
theorem markInts (b n cap k : Nat) (zs : List Int) (w : World) (hn : zs.length = n) (hl : n ≤ 1048576) (hk : k ≤ 1048576) (hv : VRow w b (ints zs)) :
    Calls Tryz.prog 32 #[.slice (some ⟨b, 0, none⟩) n cap, .int .i64 k] w fun e w' => e = .returned (.int .i64 (k + n : Nat)) ∧ VRow w' b (ints (marks n k)) ∧ w.grownBy w' (some b) := by
  have Hv : Hid (VRow w b (ints zs)) := hv
  clear hv
  go_enter Tryz.func32, Tryz.ntmps32
  go_wp2
  go_loopg [1, 5] n (fun g y i wr => ∃ q : Nat, q ≤ n ∧ i = .int .i64 q ∧ y = .int .i64 (k + q : Nat) ∧ n ≤ q + g ∧ w.grownBy wr (some b) ∧ ∃ ys : List Int, ys.length = n ∧ VRow wr b (ints ys) ∧ ∀ j, j < q → ys.getD j 0 = ((k + j : Nat) : Int))
  case atStart => exact ⟨0, Nat.zero_le _, rfl, by simp, by omega, World.grownBy.refl _ _, zs, hn, Hv.out, fun j h => by omega⟩
  case round =>
    obtain ⟨q, hq, rfl, rfl, hqg, hg, ys, hyl, hY, hs⟩ := hrel
    have HG : Hid (w.grownBy wr (some b)) := hg
    have HY : Hid (VRow wr b (ints ys)) := hY
    have Hs : Hid (∀ j, j < q → ys.getD j 0 = ((k + j : Nat) : Int)) := hs
    clear hg hY hs
    by_cases hql : q < n
    · obtain ⟨c0, f0⟩ := HY.out.int q (by omega)
      have bz := HY.out.1
      go_wp2_with fail
      go_roundg (gk - 1)
      case measure => omega
      case rel =>
        refine ⟨q + 1, by omega, by go_num, by go_num, by omega, ?_, ys.set q ((k + q : Nat) : Int), by simpa using hyl, ?_, fun j hj => ?_⟩
        · have h1 : wr.grownBy (wr.setCell ⟨b, q, none⟩ (.int .i64 ((k + q : Nat) : Int))) (some b) := ⟨rfl, rfl, rfl, by simp, fun j _ hj => Below.heap_setCell wr _ _ j (fun e => hj (by rw [e]))⟩
          exact ⟨h1.os.trans HG.out.os, h1.tape.trans HG.out.tape, h1.output.trans HG.out.output, Nat.le_trans HG.out.size h1.size, fun i hi hne => (h1.block i (Nat.lt_of_lt_of_le hi HG.out.size) hne).trans (HG.out.block i hi hne)⟩
        · have := HY.out.set_at q (.int .i64 ((k + q : Nat) : Int)) (by rw [ints_length]; omega)
          rwa [ints_set] at this
        · simp only [List.getD, List.getElem?_set]
          by_cases he : q = j
          · subst he; simp [show q < ys.length by omega]
          · simp only [he, if_false]
            exact Hs.out j (by omega)
    · have hys : ys = marks n k := by
        apply List.ext_getElem (by rw [hyl, marks_length])
        intro j h1 h2
        have := Hs.out j (by omega)
        have h3 := marks_getD n k j (by omega)
        simp only [List.getD, List.getElem?_eq_getElem h1, Option.getD_some] at this
        simp only [List.getD, List.getElem?_eq_getElem h2, Option.getD_some] at h3
        rw [this, h3]
      subst hys
      have hqn : q = n := by omega
      subst hqn
      go_wp2_with fail
      go_ret
      exact ⟨rfl, HY.out, HG.out⟩

set_option maxHeartbeats 800000 in
theorem heldInts {B : Nat} (v : Value) (n k : Nat) (w : World) (hl : n ≤ 1048576) (hk : k ≤ 1048576) (hv : IRow B w v (marks n k)) :
    Calls Tryz.prog 33 #[v, .int .i64 k] w fun e w' => e = .returned (.int .i64 (k + n : Nat)) ∧ w' = w := by
  have Hv : Hid (IRow B w v (marks n k)) := hv
  obtain ⟨A, cap, rfl⟩ := hv.form
  clear hv
  have Hm := marks_length n k
  rw [Hm] at Hv ⊢
  go_enter Tryz.func33, Tryz.ntmps33
  go_wp2
  go_loopg [1, 5] n (fun g y i wr => ∃ q : Nat, q ≤ n ∧ i = .int .i64 q ∧ y = .int .i64 (k + q : Nat) ∧ n ≤ q + g ∧ wr = w)
  case atStart => exact ⟨0, Nat.zero_le _, rfl, by simp, by omega, rfl⟩
  case round =>
    obtain ⟨q, hq, rfl, rfl, hqg, hw⟩ := hrel
    subst hw
    by_cases hql : q < n
    · obtain ⟨b, off, rfl, _, hlt, c0⟩ := Hv.out.at q (by omega)
      have hget : (marks n k)[q]'(by rw [Hm]; exact hql) = ((k + q : Nat) : Int) := by simp [marks]
      rw [hget] at c0
      clear hget
      go_wp2_with fail
      go_roundg (gk - 1)
      case measure => omega
      case rel => exact ⟨q + 1, by omega, by go_num, by go_num, by omega, rfl⟩
    · have hqn : q = n := by omega
      subst hqn
      go_wp2_with fail
      go_ret
      exact ⟨rfl, rfl⟩
end Go.Proofs.YtnknnncehcofnaaGreatDoor

namespace Go.Proofs.YtnknnncehcofnaaGreatDoor
open Go.RowKit

set_option maxHeartbeats 800000 in
theorem eqFrame {B C : Nat} (x y : Int) (v u v' u' : Value) (l t : List Int) (w : World) (h1 : IRow B w v l) (h2 : IRow B w u t) (h3 : IRow C w v' l) (h4 : IRow C w u' t) :
    Calls Tryz.prog 138 #[.agg #[.int .i64 x, .int .i64 y, v, u], .agg #[.int .i64 x, .int .i64 y, v', u']] w fun e w' => e = .returned (.bool true) ∧ Below w.heap.size w w' := by
  have H1 : Hid (IRow B w v l) := h1
  have H2 : Hid (IRow B w u t) := h2
  have H3 : Hid (IRow C w v' l) := h3
  have H4 : Hid (IRow C w u' t) := h4
  obtain ⟨A1, c1, rfl⟩ := h1.form
  obtain ⟨A2, c2, rfl⟩ := h2.form
  obtain ⟨A3, c3, rfl⟩ := h3.form
  obtain ⟨A4, c4, rfl⟩ := h4.form
  clear h1 h2 h3 h4
  obtain ⟨x0, x1, x2⟩ := boxes_new w #[.int .i64 x, .int .i64 y, .slice A1 l.length c1, .slice A2 t.length c2] #[.int .i64 x, .int .i64 y, .slice A3 l.length c3, .slice A4 t.length c4] 110 110
  have X0 : Hid (Box _ w.heap.size #[.int .i64 x, .int .i64 y, .slice A1 l.length c1, .slice A2 t.length c2]) := x0
  have X1 : Hid (Box _ (w.heap.size + 1) #[.int .i64 x, .int .i64 y, .slice A3 l.length c3, .slice A4 t.length c4]) := x1
  have X2 : Hid (Below w.heap.size w _) := x2
  clear x0 x1 x2
  go_enter Tryz.func138, Tryz.ntmps138
  go_wp2_with fail
  refine (eqInts _ _ l _ (H1.out.below X2.out) (H3.out.below X2.out)).mono ?_
  rintro e w1 ⟨rfl, hb1⟩
  have Hb1 : Hid (Below w.heap.size w w1) := X2.out.trans (hb1.mono X2.out.size)
  have d0 : w1.cell? ⟨w.heap.size, 3, none⟩ = some (.slice A2 t.length c2) := (X0.out.below hb1).2 3
  have d1 : w1.cell? ⟨w.heap.size + 1, 3, none⟩ = some (.slice A4 t.length c4) := (X1.out.below hb1).2 3
  have e0 := (X0.out.below hb1).1
  have e1 := (X1.out.below hb1).1
  clear hb1
  go_wp2_with fail
  refine (eqInts _ _ t _ (H2.out.below Hb1.out) (H4.out.below Hb1.out)).mono ?_
  rintro e w2 ⟨rfl, hb2⟩
  have Hb2 : Hid (Below w.heap.size w w2) := Hb1.out.trans (hb2.mono Hb1.out.size)
  clear hb2
  go_wp2_with fail
  go_ret
  exact ⟨rfl, Hb2.out⟩

set_option maxRecDepth 100000 in
set_option maxHeartbeats 800000 in
theorem eqFrames {B C : Nat} (v u : Value) (c : List FrM) (w : World) (hr : FrRow B w v c) (ht : FrRow C w u c) :
    Calls Tryz.prog 66 #[v, u] w fun e w' => e = .returned (.bool true) ∧ Below w.heap.size w w' := by
  have Hr : Hid (FrRow B w v c) := hr
  have Ht : Hid (FrRow C w u c) := ht
  have hlc := hr.len
  obtain ⟨A, cap, rfl⟩ := hr.form
  obtain ⟨D, dap, rfl⟩ := ht.form
  clear hr ht
  go_enter Tryz.func66, Tryz.ntmps66
  go_wp2
  go_loopw [5] (fun i wr => ∃ k : Nat, k ≤ c.length ∧ i = .int .i64 k ∧ Below w.heap.size w wr) (fun i _ => c.length - (intOf i).toNat)
  case atStart => exact ⟨0, Nat.zero_le _, rfl, Below.refl _ _⟩
  case round =>
    obtain ⟨k, hk, rfl, hb⟩ := hrel
    have Hb : Hid (Below w.heap.size w wr) := hb
    clear hb
    by_cases hkl : k < c.length
    · obtain ⟨b, off, x, y, rfl, hlt, c0, c1, c2, c3, hx, hy⟩ := (Hr.out.below Hb.out).at k hkl
      obtain ⟨b', off', x', y', rfl, hlt', d0, d1, d2, d3, hx', hy'⟩ := (Ht.out.below Hb.out).at k hkl
      have Hx : Hid (IRow B wr.drew x c[k].locals) := hx.below (Below.refl _ _).drew
      have Hy : Hid (IRow B wr.drew y c[k].stack) := hy.below (Below.refl _ _).drew
      have Hx' : Hid (IRow C wr.drew x' c[k].locals) := hx'.below (Below.refl _ _).drew
      have Hy' : Hid (IRow C wr.drew y' c[k].stack) := hy'.below (Below.refl _ _).drew
      clear hx hy hx' hy'
      go_upto_region 6 with fail
      go_cut [26] from 11 to 26 (fun x wc => x = .bool false ∧ Below w.heap.size w wc)
      case first =>
        go_region_with (go_at_call 138; refine (eqFrame _ _ _ _ _ _ _ _ _ (by exact Hx.out) (by exact Hy.out) (by exact Hx'.out) (by exact Hy'.out)).mono ?_; rintro e w3 ⟨rfl, hb3⟩)
        all_goals
          go_wp2_with fail
          go_meet
          exact ⟨rfl, Hb.out.drew.trans (hb3.mono Hb.out.size)⟩
      case rest =>
        obtain ⟨rfl, hwc⟩ := hcut
        have Hwc : Hid (Below w.heap.size w wc) := hwc
        clear hwc
        go_wp2_with fail
        go_roundw
        case rel => exact ⟨k + 1, by omega, by go_num, Hwc.out⟩
        case measure => simp [intOf]; omega
    · go_wp2_with fail
      go_ret
      exact ⟨rfl, Hb.out⟩

set_option maxRecDepth 100000 in
set_option maxHeartbeats 800000 in
theorem eqArrs {B C : Nat} (v u : Value) (c : List (List Int)) (w : World) (hr : ArrRow B w v c) (ht : ArrRow C w u c) :
    Calls Tryz.prog 67 #[v, u] w fun e w' => e = .returned (.bool true) ∧ Below w.heap.size w w' := by
  have Hr : Hid (ArrRow B w v c) := hr
  have Ht : Hid (ArrRow C w u c) := ht
  have hlc := hr.len
  obtain ⟨A, cap, rfl⟩ := hr.form
  obtain ⟨D, dap, rfl⟩ := ht.form
  clear hr ht
  go_enter Tryz.func67, Tryz.ntmps67
  go_wp2
  go_loopw [5] (fun i wr => ∃ k : Nat, k ≤ c.length ∧ i = .int .i64 k ∧ Below w.heap.size w wr) (fun i _ => c.length - (intOf i).toNat)
  case atStart => exact ⟨0, Nat.zero_le _, rfl, Below.refl _ _⟩
  case round =>
    obtain ⟨k, hk, rfl, hb⟩ := hrel
    have Hb : Hid (Below w.heap.size w wr) := hb
    clear hb
    by_cases hkl : k < c.length
    · obtain ⟨b, off, x, rfl, hlt, c0, hx⟩ := (Hr.out.below Hb.out).at k hkl
      obtain ⟨b', off', x', rfl, hlt', d0, hx'⟩ := (Ht.out.below Hb.out).at k hkl
      have Hx : Hid (IRow B wr.drew x c[k]) := hx.below (Below.refl _ _).drew
      have Hx' : Hid (IRow C wr.drew x' c[k]) := hx'.below (Below.refl _ _).drew
      obtain ⟨A1, c1, rfl⟩ := hx.form
      obtain ⟨A2, c2, rfl⟩ := hx'.form
      clear hx hx'
      go_upto_region 6 with fail
      go_cut [26] from 11 to 26 (fun x wc => x = .bool false ∧ Below w.heap.size w wc)
      case first =>
        go_region_with (go_at_call 31; refine (eqInts _ _ _ _ (by exact Hx.out) (by exact Hx'.out)).mono ?_; rintro e w3 ⟨rfl, hb3⟩)
        all_goals
          go_wp2_with fail
          go_meet
          exact ⟨rfl, Hb.out.drew.trans (hb3.mono Hb.out.size)⟩
      case rest =>
        obtain ⟨rfl, hwc⟩ := hcut
        have Hwc : Hid (Below w.heap.size w wc) := hwc
        clear hwc
        go_wp2_with fail
        go_roundw
        case rel => exact ⟨k + 1, by omega, by go_num, Hwc.out⟩
        case measure => simp [intOf]; omega
    · go_wp2_with fail
      go_ret
      exact ⟨rfl, Hb.out⟩
end Go.Proofs.YtnknnncehcofnaaGreatDoor

namespace Go.Proofs.YtnknnncehcofnaaGreatDoor
open Go.RowKit

/-- block b holds a state's three lists and four fields -/
def StBox (w : World) (b : Nat) (x y z : Value) (s : StM) : Prop := Box w b #[x, y, z, .int .i64 s.fuel, .bool s.done, .int .i64 s.value, .int .i64 s.trap]

theorem StBox.below {w w' : World} {b : Nat} {x y z : Value} {s : StM} (h : StBox w b x y z s) (hb : Below w.heap.size w w') : StBox w' b x y z s := Box.below h hb

theorem StBox.cells {w : World} {b : Nat} {x y z : Value} {s : StM} (h : StBox w b x y z s) : b < w.heap.size ∧ w.cell? ⟨b, 0, none⟩ = some x ∧ w.cell? ⟨b, 1, none⟩ = some y ∧ w.cell? ⟨b, 2, none⟩ = some z ∧ w.cell? ⟨b, 3, none⟩ = some (.int .i64 s.fuel) ∧ w.cell? ⟨b, 4, none⟩ = some (.bool s.done) ∧ w.cell? ⟨b, 5, none⟩ = some (.int .i64 s.value) ∧ w.cell? ⟨b, 6, none⟩ = some (.int .i64 s.trap) :=
  ⟨h.1, h.2 0, h.2 1, h.2 2, h.2 3, h.2 4, h.2 5, h.2 6⟩

theorem stBox_new (w : World) (x y z : Value) (s : StM) (t : TypeId) : StBox (w.alloc (.cells #[x, y, z, .int .i64 s.fuel, .bool s.done, .int .i64 s.value, .int .i64 s.trap] t)) w.heap.size x y z s := box_new w _ t

set_option maxRecDepth 100000 in
set_option maxHeartbeats 1600000 in
theorem eqState {B C : Nat} (x y z x' y' z' : Value) (s : StM) (w : World) (hr : StRow B w x y z s) (ht : StRow C w x' y' z' s) :
    Calls Tryz.prog 19 #[stV x y z s, stV x' y' z' s] w fun e w' => e = .returned (.bool true) ∧ Below w.heap.size w w' := by
  obtain ⟨h1, h2, h3⟩ := hr
  obtain ⟨k1, k2, k3⟩ := ht
  have H1 : Hid (FrRow B w x s.frames) := h1
  have H2 : Hid (ArrRow B w y s.heap) := h2
  have H3 : Hid (IRow B w z s.out) := h3
  have K1 : Hid (FrRow C w x' s.frames) := k1
  have K2 : Hid (ArrRow C w y' s.heap) := k2
  have K3 : Hid (IRow C w z' s.out) := k3
  obtain ⟨A1, c1, rfl⟩ := h1.form
  obtain ⟨A2, c2, rfl⟩ := h2.form
  obtain ⟨A3, c3, rfl⟩ := h3.form
  obtain ⟨D1, e1, rfl⟩ := k1.form
  obtain ⟨D2, e2, rfl⟩ := k2.form
  obtain ⟨D3, e3, rfl⟩ := k3.form
  clear h1 h2 h3 k1 k2 k3
  unfold stV
  obtain ⟨p0, p1, p2⟩ := boxes_new w #[.slice A1 s.frames.length c1, .slice A2 s.heap.length c2, .slice A3 s.out.length c3, .int .i64 s.fuel, .bool s.done, .int .i64 s.value, .int .i64 s.trap] #[.slice D1 s.frames.length e1, .slice D2 s.heap.length e2, .slice D3 s.out.length e3, .int .i64 s.fuel, .bool s.done, .int .i64 s.value, .int .i64 s.trap] 45 45
  have X0 : Hid (StBox _ w.heap.size (.slice A1 s.frames.length c1) (.slice A2 s.heap.length c2) (.slice A3 s.out.length c3) s) := p0
  have X1 : Hid (StBox _ (w.heap.size + 1) (.slice D1 s.frames.length e1) (.slice D2 s.heap.length e2) (.slice D3 s.out.length e3) s) := p1
  have X2 : Hid (Below w.heap.size w _) := p2
  clear p0 p1 p2
  go_enter Tryz.func19, Tryz.ntmps19
  go_wp2_with fail
  refine (eqFrames _ _ s.frames _ (H1.out.below X2.out) (K1.out.below X2.out)).mono ?_
  rintro e w1 ⟨rfl, hb1⟩
  have Hb1 : Hid (Below w.heap.size w w1) := X2.out.trans (hb1.mono X2.out.size)
  have Y0 : Hid (StBox w1 w.heap.size (.slice A1 s.frames.length c1) (.slice A2 s.heap.length c2) (.slice A3 s.out.length c3) s) := X0.out.below hb1
  have Y1 : Hid (StBox w1 (w.heap.size + 1) (.slice D1 s.frames.length e1) (.slice D2 s.heap.length e2) (.slice D3 s.out.length e3) s) := X1.out.below hb1
  obtain ⟨s0, -, d0, -⟩ := Y0.out.cells
  obtain ⟨s1, -, d1, -⟩ := Y1.out.cells
  clear hb1 X0 X1
  go_wp2_with fail
  refine (eqArrs _ _ s.heap _ (H2.out.below Hb1.out) (K2.out.below Hb1.out)).mono ?_
  rintro e w2 ⟨rfl, hb2⟩
  have Hb2 : Hid (Below w.heap.size w w2) := Hb1.out.trans (hb2.mono Hb1.out.size)
  have Z0 : Hid (StBox w2 w.heap.size (.slice A1 s.frames.length c1) (.slice A2 s.heap.length c2) (.slice A3 s.out.length c3) s) := Y0.out.below hb2
  have Z1 : Hid (StBox w2 (w.heap.size + 1) (.slice D1 s.frames.length e1) (.slice D2 s.heap.length e2) (.slice D3 s.out.length e3) s) := Y1.out.below hb2
  clear s0 d0 s1 d1
  obtain ⟨s0, -, -, d0, -⟩ := Z0.out.cells
  obtain ⟨s1, -, -, d1, -⟩ := Z1.out.cells
  clear hb2 Y0 Y1
  go_wp2_with fail
  refine (eqInts _ _ s.out _ (H3.out.below Hb2.out) (K3.out.below Hb2.out)).mono ?_
  rintro e w3 ⟨rfl, hb3⟩
  have Hb3 : Hid (Below w.heap.size w w3) := Hb2.out.trans (hb3.mono Hb2.out.size)
  have V0 := Z0.out.below hb3
  have V1 := Z1.out.below hb3
  clear s0 d0 s1 d1 hb3 Z0 Z1
  obtain ⟨s0, -, -, -, d0, d1, d2, d3⟩ := V0.cells
  obtain ⟨s1, -, -, -, r0, r1, r2, r3⟩ := V1.cells
  clear V0 V1
  go_wp2_with fail
  go_ret
  exact ⟨rfl, Hb3.out⟩
end Go.Proofs.YtnknnncehcofnaaGreatDoor
