/- laws.eqState and what it calls, of two states that read the same. -/
import Derived.Test.YtfaameimocjaiaaDoorSt
import Derived.Test.YtfaameimocjaiaaDoorMarks
import Derived.Deep.RegionHeld3
import Derived.Deep.DeepCutAuto
namespace Go.Proofs.YtfaameimocjaiaaDoor
open Go.RowKit

set_option maxHeartbeats 800000 in
theorem eqFrame {B C : Nat} (x y : Int) (v u v' u' : Value) (l t : List Int) (w : World) (h1 : IRow B w v l) (h2 : IRow B w u t) (h3 : IRow C w v' l) (h4 : IRow C w u' t) :
    Calls Tryd.prog 66 #[.agg #[.int .i64 x, .int .i64 y, v, u], .agg #[.int .i64 x, .int .i64 y, v', u']] w fun e w' => e = .returned (.bool true) ∧ Below w.heap.size w w' := by
  have H1 : Hid (IRow B w v l) := h1
  have H2 : Hid (IRow B w u t) := h2
  have H3 : Hid (IRow C w v' l) := h3
  have H4 : Hid (IRow C w u' t) := h4
  obtain ⟨A1, c1, rfl⟩ := h1.form
  obtain ⟨A2, c2, rfl⟩ := h2.form
  obtain ⟨A3, c3, rfl⟩ := h3.form
  obtain ⟨A4, c4, rfl⟩ := h4.form
  clear h1 h2 h3 h4
  obtain ⟨x0, x1, x2⟩ := boxes_new w #[.int .i64 x, .int .i64 y, .slice A1 l.length c1, .slice A2 t.length c2] #[.int .i64 x, .int .i64 y, .slice A3 l.length c3, .slice A4 t.length c4] 71 71
  have X0 : Hid (Box _ w.heap.size #[.int .i64 x, .int .i64 y, .slice A1 l.length c1, .slice A2 t.length c2]) := x0
  have X1 : Hid (Box _ (w.heap.size + 1) #[.int .i64 x, .int .i64 y, .slice A3 l.length c3, .slice A4 t.length c4]) := x1
  have X2 : Hid (Below w.heap.size w _) := x2
  clear x0 x1 x2
  go_enter Tryd.func66, Tryd.ntmps66
  go_wp2_with fail
  refine (eqInts _ _ l _ (H1.out.below X2.out) (H3.out.below X2.out)).mono ?_
  rintro e w1 ⟨rfl, hb1⟩
  have Hb1 : Hid (Below w.heap.size w w1) := X2.out.trans (hb1.mono X2.out.size)
  have d0 : w1.cell? ⟨w.heap.size, 3, none⟩ = some (.slice A2 t.length c2) := (X0.out.below hb1).2 3
  have d1 : w1.cell? ⟨w.heap.size + 1, 3, none⟩ = some (.slice A4 t.length c4) := (X1.out.below hb1).2 3
  have e0 := (X0.out.below hb1).1
  have e1 := (X1.out.below hb1).1
  clear hb1
  go_wp2_with fail
  refine (eqInts _ _ t _ (H2.out.below Hb1.out) (H4.out.below Hb1.out)).mono ?_
  rintro e w2 ⟨rfl, hb2⟩
  have Hb2 : Hid (Below w.heap.size w w2) := Hb1.out.trans (hb2.mono Hb1.out.size)
  clear hb2
  go_wp2_with fail
  go_ret
  exact ⟨rfl, Hb2.out⟩

set_option maxRecDepth 100000 in
set_option maxHeartbeats 800000 in
theorem eqFrames {B C : Nat} (v u : Value) (c : List FrM) (w : World) (hr : FrRow B w v c) (ht : FrRow C w u c) :
    Calls Tryd.prog 38 #[v, u] w fun e w' => e = .returned (.bool true) ∧ Below w.heap.size w w' := by
  have Hr : Hid (FrRow B w v c) := hr
  have Ht : Hid (FrRow C w u c) := ht
  have hlc := hr.len
  obtain ⟨A, cap, rfl⟩ := hr.form
  obtain ⟨D, dap, rfl⟩ := ht.form
  clear hr ht
  go_enter Tryd.func38, Tryd.ntmps38
  go_wp2
  go_loopw [5] (fun i wr => ∃ k : Nat, k ≤ c.length ∧ i = .int .i64 k ∧ Below w.heap.size w wr) (fun i _ => c.length - (intOf i).toNat)
  case atStart => exact ⟨0, Nat.zero_le _, rfl, Below.refl _ _⟩
  case round =>
    obtain ⟨k, hk, rfl, hb⟩ := hrel
    have Hb : Hid (Below w.heap.size w wr) := hb
    clear hb
    by_cases hkl : k < c.length
    · obtain ⟨b, off, x, y, rfl, hlt, c0, c1, c2, c3, hx, hy⟩ := (Hr.out.below Hb.out).at k hkl
      obtain ⟨b', off', x', y', rfl, hlt', d0, d1, d2, d3, hx', hy'⟩ := (Ht.out.below Hb.out).at k hkl
      have Hx : Hid (IRow B wr.drew x c[k].locals) := hx.below (Below.refl _ _).drew
      have Hy : Hid (IRow B wr.drew y c[k].stack) := hy.below (Below.refl _ _).drew
      have Hx' : Hid (IRow C wr.drew x' c[k].locals) := hx'.below (Below.refl _ _).drew
      have Hy' : Hid (IRow C wr.drew y' c[k].stack) := hy'.below (Below.refl _ _).drew
      clear hx hy hx' hy'
      go_upto_region 6 with fail
      go_cut [26] from 11 to 26 (fun x wc => x = .bool false ∧ Below w.heap.size w wc)
      case first =>
        go_region_with (go_at_call 66; refine (eqFrame _ _ _ _ _ _ _ _ _ (by exact Hx.out) (by exact Hy.out) (by exact Hx'.out) (by exact Hy'.out)).mono ?_; rintro e w3 ⟨rfl, hb3⟩)
        all_goals
          go_wp2_with fail
          go_meet
          exact ⟨rfl, Hb.out.drew.trans (hb3.mono Hb.out.size)⟩
      case rest =>
        obtain ⟨rfl, hwc⟩ := hcut
        have Hwc : Hid (Below w.heap.size w wc) := hwc
        clear hwc
        go_wp2_with fail
        go_roundw
        case rel => exact ⟨k + 1, by omega, by go_num, Hwc.out⟩
        case measure => simp [intOf]; omega
    · go_wp2_with fail
      go_ret
      exact ⟨rfl, Hb.out⟩

set_option maxRecDepth 100000 in
set_option maxHeartbeats 800000 in
theorem eqArrs {B C : Nat} (v u : Value) (c : List (List Int)) (w : World) (hr : ArrRow B w v c) (ht : ArrRow C w u c) :
    Calls Tryd.prog 39 #[v, u] w fun e w' => e = .returned (.bool true) ∧ Below w.heap.size w w' := by
  have Hr : Hid (ArrRow B w v c) := hr
  have Ht : Hid (ArrRow C w u c) := ht
  have hlc := hr.len
  obtain ⟨A, cap, rfl⟩ := hr.form
  obtain ⟨D, dap, rfl⟩ := ht.form
  clear hr ht
  go_enter Tryd.func39, Tryd.ntmps39
  go_wp2
  go_loopw [5] (fun i wr => ∃ k : Nat, k ≤ c.length ∧ i = .int .i64 k ∧ Below w.heap.size w wr) (fun i _ => c.length - (intOf i).toNat)
  case atStart => exact ⟨0, Nat.zero_le _, rfl, Below.refl _ _⟩
  case round =>
    obtain ⟨k, hk, rfl, hb⟩ := hrel
    have Hb : Hid (Below w.heap.size w wr) := hb
    clear hb
    by_cases hkl : k < c.length
    · obtain ⟨b, off, x, rfl, hlt, c0, hx⟩ := (Hr.out.below Hb.out).at k hkl
      obtain ⟨b', off', x', rfl, hlt', d0, hx'⟩ := (Ht.out.below Hb.out).at k hkl
      have Hx : Hid (IRow B wr.drew x c[k]) := hx.below (Below.refl _ _).drew
      have Hx' : Hid (IRow C wr.drew x' c[k]) := hx'.below (Below.refl _ _).drew
      obtain ⟨A1, c1, rfl⟩ := hx.form
      obtain ⟨A2, c2, rfl⟩ := hx'.form
      clear hx hx'
      go_upto_region 6 with fail
      go_cut [26] from 11 to 26 (fun x wc => x = .bool false ∧ Below w.heap.size w wc)
      case first =>
        go_region_with (go_at_call 15; refine (eqInts _ _ _ _ (by exact Hx.out) (by exact Hx'.out)).mono ?_; rintro e w3 ⟨rfl, hb3⟩)
        all_goals
          go_wp2_with fail
          go_meet
          exact ⟨rfl, Hb.out.drew.trans (hb3.mono Hb.out.size)⟩
      case rest =>
        obtain ⟨rfl, hwc⟩ := hcut
        have Hwc : Hid (Below w.heap.size w wc) := hwc
        clear hwc
        go_wp2_with fail
        go_roundw
        case rel => exact ⟨k + 1, by omega, by go_num, Hwc.out⟩
        case measure => simp [intOf]; omega
    · go_wp2_with fail
      go_ret
      exact ⟨rfl, Hb.out⟩
end Go.Proofs.YtfaameimocjaiaaDoor
