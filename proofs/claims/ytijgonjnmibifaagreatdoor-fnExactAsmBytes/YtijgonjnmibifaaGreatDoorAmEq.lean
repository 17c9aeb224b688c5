/- laws.eqAsm and what it calls: of two that read the same it tells so. -/
import Derived.Test.YtijgonjnmibifaaGreatDoorAm
import Derived.Deep.RegionHeld3
import Derived.Deep.DeepCutAuto
namespace Go.Proofs.YtijgonjnmibifaaGreatDoor
open Go.RowKit

theorem eqVal (x y : Int) (w : World) :
    Calls Tryz.prog 109 #[.agg #[.int .i64 x, .int .i64 y], .agg #[.int .i64 x, .int .i64 y]] w fun e w' => e = .returned (.bool true) ∧ Below w.heap.size w w' := by
  go_enter Tryz.func109, Tryz.ntmps109
  go_wp2
  go_ret
  exact ⟨rfl, ((Below.refl _ _).alloc (Nat.le_refl _) _).alloc (by simp) _⟩

set_option maxHeartbeats 800000 in
theorem eqMov (x y z : Int) (w : World) :
    Calls Tryz.prog 133 #[.agg #[.int .i64 x, .int .i64 y, .int .i64 z], .agg #[.int .i64 x, .int .i64 y, .int .i64 z]] w fun e w' => e = .returned (.bool true) ∧ Below w.heap.size w w' := by
  have b2 : ∀ o o' : Obj, Below w.heap.size w ((w.alloc o).alloc o') := fun o o' => ((Below.refl _ _).alloc (Nat.le_refl _) _).alloc (by simp) _
  go_enter Tryz.func133, Tryz.ntmps133
  go_wp2_with fail
  refine (eqVal y z _).mono ?_
  rintro e w1 ⟨rfl, hb1⟩
  have Hb1 : Hid (Below w.heap.size w w1) := (b2 _ _).trans (hb1.mono (by simp; omega))
  clear hb1 b2
  go_wp2_with fail
  go_ret
  exact ⟨rfl, Hb1.out⟩

set_option maxRecDepth 100000 in
set_option maxHeartbeats 800000 in
theorem eqVals {B C : Nat} (v u : Value) (c : List (Int × Int)) (w : World) (hr : InsRow B w v c) (ht : InsRow C w u c) :
    Calls Tryz.prog 66 #[v, u] w fun e w' => e = .returned (.bool true) ∧ Below w.heap.size w w' := by
  have Hr : Hid (InsRow B w v c) := hr
  have Ht : Hid (InsRow C w u c) := ht
  obtain ⟨A, cap, rfl, _, hc⟩ := hr
  obtain ⟨D, dap, rfl, _, hd⟩ := ht
  clear hc hd
  go_enter Tryz.func66, Tryz.ntmps66
  go_wp2
  go_loopw [5] (fun i wr => ∃ k : Nat, k ≤ c.length ∧ i = .int .i64 k ∧ Below w.heap.size w wr) (fun i _ => c.length - (intOf i).toNat)
  case atStart => exact ⟨0, Nat.zero_le _, rfl, Below.refl _ _⟩
  case round =>
    obtain ⟨k, hk, rfl, hb⟩ := hrel
    have Hb : Hid (Below w.heap.size w wr) := hb
    clear hb
    by_cases hkl : k < c.length
    · obtain ⟨A', cap', he, _, hc⟩ := Hr.out.below Hb.out
      simp only [Value.slice.injEq] at he
      obtain ⟨rfl, _, rfl⟩ := he
      obtain ⟨b, off, rfl, _, hlt, c0, c1⟩ := hc k hkl
      obtain ⟨A', cap', he, _, hd⟩ := Ht.out.below Hb.out
      simp only [Value.slice.injEq] at he
      obtain ⟨rfl, _, rfl⟩ := he
      obtain ⟨b', off', rfl, _, hlt', d0, d1⟩ := hd k hkl
      clear hc hd
      go_upto_region 6 with fail
      go_cut [26] from 11 to 26 (fun x wc => x = .bool false ∧ Below w.heap.size w wc)
      case first =>
        go_region_with (go_at_call 109; refine (eqVal _ _ _).mono ?_; rintro e w3 ⟨rfl, hb3⟩)
        all_goals
          go_wp2_with fail
          go_meet
          exact ⟨rfl, Hb.out.drew.trans (hb3.mono Hb.out.size)⟩
      case rest =>
        obtain ⟨rfl, hwc⟩ := hcut
        have Hwc : Hid (Below w.heap.size w wc) := hwc
        clear hwc
        go_wp2_with fail
        go_roundw
        case rel => exact ⟨k + 1, by omega, by go_num, Hwc.out⟩
        case measure => simp [intOf]; omega
    · go_wp2_with fail
      go_ret
      exact ⟨rfl, Hb.out⟩

set_option maxRecDepth 100000 in
set_option maxHeartbeats 800000 in
theorem eqMovs {B C : Nat} (v u : Value) (c : List MvM) (w : World) (hr : MvRow B w v c) (ht : MvRow C w u c) :
    Calls Tryz.prog 108 #[v, u] w fun e w' => e = .returned (.bool true) ∧ Below w.heap.size w w' := by
  have Hr : Hid (MvRow B w v c) := hr
  have Ht : Hid (MvRow C w u c) := ht
  obtain ⟨A, cap, rfl, _, hc⟩ := hr
  obtain ⟨D, dap, rfl, _, hd⟩ := ht
  clear hc hd
  go_enter Tryz.func108, Tryz.ntmps108
  go_wp2
  go_loopw [5] (fun i wr => ∃ k : Nat, k ≤ c.length ∧ i = .int .i64 k ∧ Below w.heap.size w wr) (fun i _ => c.length - (intOf i).toNat)
  case atStart => exact ⟨0, Nat.zero_le _, rfl, Below.refl _ _⟩
  case round =>
    obtain ⟨k, hk, rfl, hb⟩ := hrel
    have Hb : Hid (Below w.heap.size w wr) := hb
    clear hb
    by_cases hkl : k < c.length
    · obtain ⟨A', cap', he, _, hc⟩ := Hr.out.below Hb.out
      simp only [Value.slice.injEq] at he
      obtain ⟨rfl, _, rfl⟩ := he
      obtain ⟨b, off, rfl, _, hlt, c0, c1, c2⟩ := hc k hkl
      obtain ⟨A', cap', he, _, hd⟩ := Ht.out.below Hb.out
      simp only [Value.slice.injEq] at he
      obtain ⟨rfl, _, rfl⟩ := he
      obtain ⟨b', off', rfl, _, hlt', d0, d1, d2⟩ := hd k hkl
      clear hc hd
      go_upto_region 6 with fail
      go_cut [26] from 11 to 26 (fun x wc => x = .bool false ∧ Below w.heap.size w wc)
      case first =>
        go_region_with (go_at_call 133; refine (eqMov _ _ _ _).mono ?_; rintro e w3 ⟨rfl, hb3⟩)
        all_goals
          go_wp2_with fail
          go_meet
          exact ⟨rfl, Hb.out.drew.trans (hb3.mono Hb.out.size)⟩
      case rest =>
        obtain ⟨rfl, hwc⟩ := hcut
        have Hwc : Hid (Below w.heap.size w wc) := hwc
        clear hwc
        go_wp2_with fail
        go_roundw
        case rel => exact ⟨k + 1, by omega, by go_num, Hwc.out⟩
        case measure => simp [intOf]; omega
    · go_wp2_with fail
      go_ret
      exact ⟨rfl, Hb.out⟩

set_option maxHeartbeats 800000 in
theorem eqAi {B C : Nat} (x y z : Int) (v u v' u' : Value) (l : List MvM) (t : List (Int × Int)) (w : World) (h1 : MvRow B w v l) (h2 : InsRow B w u t) (h3 : MvRow C w v' l) (h4 : InsRow C w u' t) :
    Calls Tryz.prog 65 #[.agg #[v, .int .i64 x, .int .i64 y, u, .int .i64 z], .agg #[v', .int .i64 x, .int .i64 y, u', .int .i64 z]] w fun e w' => e = .returned (.bool true) ∧ Below w.heap.size w w' := by
  have H1 : Hid (MvRow B w v l) := h1
  have H2 : Hid (InsRow B w u t) := h2
  have H3 : Hid (MvRow C w v' l) := h3
  have H4 : Hid (InsRow C w u' t) := h4
  obtain ⟨A1, c1, rfl⟩ := h1.form
  obtain ⟨A2, c2, rfl⟩ := h2.form
  obtain ⟨A3, c3, rfl⟩ := h3.form
  obtain ⟨A4, c4, rfl⟩ := h4.form
  clear h1 h2 h3 h4
  obtain ⟨x0, x1, x2⟩ := boxes_new w #[.slice A1 l.length c1, .int .i64 x, .int .i64 y, .slice A2 t.length c2, .int .i64 z] #[.slice A3 l.length c3, .int .i64 x, .int .i64 y, .slice A4 t.length c4, .int .i64 z] 60 60
  have X0 : Hid (Box _ w.heap.size #[.slice A1 l.length c1, .int .i64 x, .int .i64 y, .slice A2 t.length c2, .int .i64 z]) := x0
  have X1 : Hid (Box _ (w.heap.size + 1) #[.slice A3 l.length c3, .int .i64 x, .int .i64 y, .slice A4 t.length c4, .int .i64 z]) := x1
  have X2 : Hid (Below w.heap.size w _) := x2
  clear x0 x1 x2
  go_enter Tryz.func65, Tryz.ntmps65
  go_wp2_with fail
  refine (eqMovs _ _ l _ (H1.out.below X2.out) (H3.out.below X2.out)).mono ?_
  rintro e w1 ⟨rfl, hb1⟩
  have Hb1 : Hid (Below w.heap.size w w1) := X2.out.trans (hb1.mono X2.out.size)
  have Y0 : Hid (Box w1 w.heap.size #[.slice A1 l.length c1, .int .i64 x, .int .i64 y, .slice A2 t.length c2, .int .i64 z]) := X0.out.below hb1
  have Y1 : Hid (Box w1 (w.heap.size + 1) #[.slice A3 l.length c3, .int .i64 x, .int .i64 y, .slice A4 t.length c4, .int .i64 z]) := X1.out.below hb1
  have a1 : w1.cell? ⟨w.heap.size, 1, none⟩ = some (.int .i64 x) := Y0.out.2 1
  have a2 : w1.cell? ⟨w.heap.size, 2, none⟩ = some (.int .i64 y) := Y0.out.2 2
  have a3 : w1.cell? ⟨w.heap.size, 3, none⟩ = some (.slice A2 t.length c2) := Y0.out.2 3
  have d1 : w1.cell? ⟨w.heap.size + 1, 1, none⟩ = some (.int .i64 x) := Y1.out.2 1
  have d2 : w1.cell? ⟨w.heap.size + 1, 2, none⟩ = some (.int .i64 y) := Y1.out.2 2
  have d3 : w1.cell? ⟨w.heap.size + 1, 3, none⟩ = some (.slice A4 t.length c4) := Y1.out.2 3
  have e0 := Y0.out.1
  have e1 := Y1.out.1
  clear hb1 X0 X1 X2
  go_wp2_with fail
  refine (eqVals _ _ t _ (H2.out.below Hb1.out) (H4.out.below Hb1.out)).mono ?_
  rintro e w2 ⟨rfl, hb2⟩
  have Hb2 : Hid (Below w.heap.size w w2) := Hb1.out.trans (hb2.mono Hb1.out.size)
  have a4 : w2.cell? ⟨w.heap.size, 4, none⟩ = some (.int .i64 z) := (Y0.out.below hb2).2 4
  have d4 : w2.cell? ⟨w.heap.size + 1, 4, none⟩ = some (.int .i64 z) := (Y1.out.below hb2).2 4
  have g0 := (Y0.out.below hb2).1
  have g1 := (Y1.out.below hb2).1
  clear hb2 a1 a2 a3 d1 d2 d3 e0 e1 Y0 Y1
  go_wp2_with fail
  go_ret
  exact ⟨rfl, Hb2.out⟩

set_option maxRecDepth 100000 in
set_option maxHeartbeats 800000 in
theorem eqAis {B C : Nat} (v u : Value) (c : List AiM) (w : World) (hr : AiRow B w v c) (ht : AiRow C w u c) :
    Calls Tryz.prog 33 #[v, u] w fun e w' => e = .returned (.bool true) ∧ Below w.heap.size w w' := by
  have Hr : Hid (AiRow B w v c) := hr
  have Ht : Hid (AiRow C w u c) := ht
  have hlc := hr.len
  obtain ⟨A, cap, rfl⟩ := hr.form
  obtain ⟨D, dap, rfl⟩ := ht.form
  clear hr ht
  go_enter Tryz.func33, Tryz.ntmps33
  go_wp2
  go_loopw [5] (fun i wr => ∃ k : Nat, k ≤ c.length ∧ i = .int .i64 k ∧ Below w.heap.size w wr) (fun i _ => c.length - (intOf i).toNat)
  case atStart => exact ⟨0, Nat.zero_le _, rfl, Below.refl _ _⟩
  case round =>
    obtain ⟨k, hk, rfl, hb⟩ := hrel
    have Hb : Hid (Below w.heap.size w wr) := hb
    clear hb
    by_cases hkl : k < c.length
    · obtain ⟨b, off, x, y, rfl, hlt, c0, c1, c2, c3, c4, hx, hy⟩ := (Hr.out.below Hb.out).at k hkl
      obtain ⟨b', off', x', y', rfl, hlt', d0, d1, d2, d3, d4, hx', hy'⟩ := (Ht.out.below Hb.out).at k hkl
      have Hx : Hid (MvRow B wr.drew x c[k].pre) := hx.below (Below.refl _ _).drew
      have Hy : Hid (InsRow B wr.drew y c[k].l) := hy.below (Below.refl _ _).drew
      have Hx' : Hid (MvRow C wr.drew x' c[k].pre) := hx'.below (Below.refl _ _).drew
      have Hy' : Hid (InsRow C wr.drew y' c[k].l) := hy'.below (Below.refl _ _).drew
      clear hx hy hx' hy'
      go_upto_region 6 with fail
      go_cut [26] from 11 to 26 (fun x wc => x = .bool false ∧ Below w.heap.size w wc)
      case first =>
        go_region_with (go_at_call 65; refine (eqAi _ _ _ _ _ _ _ _ _ _ (by exact Hx.out) (by exact Hy.out) (by exact Hx'.out) (by exact Hy'.out)).mono ?_; rintro e w3 ⟨rfl, hb3⟩)
        all_goals
          go_wp2_with fail
          go_meet
          exact ⟨rfl, Hb.out.drew.trans (hb3.mono Hb.out.size)⟩
      case rest =>
        obtain ⟨rfl, hwc⟩ := hcut
        have Hwc : Hid (Below w.heap.size w wc) := hwc
        clear hwc
        go_wp2_with fail
        go_roundw
        case rel => exact ⟨k + 1, by omega, by go_num, Hwc.out⟩
        case measure => simp [intOf]; omega
    · go_wp2_with fail
      go_ret
      exact ⟨rfl, Hb.out⟩

set_option maxRecDepth 100000 in
set_option maxHeartbeats 800000 in
theorem eqMaps {B C : Nat} (v u : Value) (c : List (List (Int × Int))) (w : World) (hr : MapsRow B w v c) (ht : MapsRow C w u c) :
    Calls Tryz.prog 34 #[v, u] w fun e w' => e = .returned (.bool true) ∧ Below w.heap.size w w' := by
  have Hr : Hid (MapsRow B w v c) := hr
  have Ht : Hid (MapsRow C w u c) := ht
  have hlc := hr.len
  obtain ⟨A, cap, rfl⟩ := hr.form
  obtain ⟨D, dap, rfl⟩ := ht.form
  clear hr ht
  go_enter Tryz.func34, Tryz.ntmps34
  go_wp2
  go_loopw [5] (fun i wr => ∃ k : Nat, k ≤ c.length ∧ i = .int .i64 k ∧ Below w.heap.size w wr) (fun i _ => c.length - (intOf i).toNat)
  case atStart => exact ⟨0, Nat.zero_le _, rfl, Below.refl _ _⟩
  case round =>
    obtain ⟨k, hk, rfl, hb⟩ := hrel
    have Hb : Hid (Below w.heap.size w wr) := hb
    clear hb
    by_cases hkl : k < c.length
    · obtain ⟨b, off, x, rfl, hlt, c0, hx⟩ := (Hr.out.below Hb.out).at k hkl
      obtain ⟨b', off', x', rfl, hlt', d0, hx'⟩ := (Ht.out.below Hb.out).at k hkl
      have Hx : Hid (InsRow B wr.drew x c[k]) := hx.below (Below.refl _ _).drew
      have Hx' : Hid (InsRow C wr.drew x' c[k]) := hx'.below (Below.refl _ _).drew
      obtain ⟨A1, c1, rfl⟩ := hx.form
      obtain ⟨A2, c2, rfl⟩ := hx'.form
      clear hx hx'
      go_upto_region 6 with fail
      go_cut [26] from 11 to 26 (fun x wc => x = .bool false ∧ Below w.heap.size w wc)
      case first =>
        go_region_with (go_at_call 66; refine (eqVals _ _ _ _ (by exact Hx.out) (by exact Hx'.out)).mono ?_; rintro e w3 ⟨rfl, hb3⟩)
        all_goals
          go_wp2_with fail
          go_meet
          exact ⟨rfl, Hb.out.drew.trans (hb3.mono Hb.out.size)⟩
      case rest =>
        obtain ⟨rfl, hwc⟩ := hcut
        have Hwc : Hid (Below w.heap.size w wc) := hwc
        clear hwc
        go_wp2_with fail
        go_roundw
        case rel => exact ⟨k + 1, by omega, by go_num, Hwc.out⟩
        case measure => simp [intOf]; omega
    · go_wp2_with fail
      go_ret
      exact ⟨rfl, Hb.out⟩

set_option maxRecDepth 100000 in
set_option maxHeartbeats 1600000 in
theorem eqAsm {B C : Nat} (x y x' y' : Value) (a : AsM) (w : World) (hr : AsRow B w x y a) (ht : AsRow C w x' y' a) :
    Calls Tryz.prog 12 #[asV x y a, asV x' y' a] w fun e w' => e = .returned (.bool true) ∧ Below w.heap.size w w' := by
  obtain ⟨h1, h2⟩ := hr
  obtain ⟨k1, k2⟩ := ht
  have H1 : Hid (AiRow B w x a.code) := h1
  have H2 : Hid (MapsRow B w y a.maps) := h2
  have K1 : Hid (AiRow C w x' a.code) := k1
  have K2 : Hid (MapsRow C w y' a.maps) := k2
  obtain ⟨A1, c1, rfl⟩ := h1.form
  obtain ⟨A2, c2, rfl⟩ := h2.form
  obtain ⟨D1, e1, rfl⟩ := k1.form
  obtain ⟨D2, e2, rfl⟩ := k2.form
  clear h1 h2 k1 k2
  unfold asV
  obtain ⟨p0, p1, p2⟩ := boxes_new w #[.int .i64 a.func, .slice A1 a.code.length c1, .slice A2 a.maps.length c2] #[.int .i64 a.func, .slice D1 a.code.length e1, .slice D2 a.maps.length e2] 39 39
  have X0 : Hid (AsBox _ w.heap.size (.slice A1 a.code.length c1) (.slice A2 a.maps.length c2) a) := p0
  have X1 : Hid (AsBox _ (w.heap.size + 1) (.slice D1 a.code.length e1) (.slice D2 a.maps.length e2) a) := p1
  have X2 : Hid (Below w.heap.size w _) := p2
  clear p0 p1 p2
  go_enter Tryz.func12, Tryz.ntmps12
  go_wp2_with fail
  refine (eqAis _ _ a.code _ (H1.out.below X2.out) (K1.out.below X2.out)).mono ?_
  rintro e w1 ⟨rfl, hb1⟩
  have Hb1 : Hid (Below w.heap.size w w1) := X2.out.trans (hb1.mono X2.out.size)
  have Y0 : Hid (AsBox w1 w.heap.size (.slice A1 a.code.length c1) (.slice A2 a.maps.length c2) a) := X0.out.below hb1
  have Y1 : Hid (AsBox w1 (w.heap.size + 1) (.slice D1 a.code.length e1) (.slice D2 a.maps.length e2) a) := X1.out.below hb1
  obtain ⟨s0, -, -, d0⟩ := Y0.out.cells
  obtain ⟨s1, -, -, d1⟩ := Y1.out.cells
  clear hb1 X0 X1
  go_wp2_with fail
  refine (eqMaps _ _ a.maps _ (H2.out.below Hb1.out) (K2.out.below Hb1.out)).mono ?_
  rintro e w2 ⟨rfl, hb2⟩
  have Hb2 : Hid (Below w.heap.size w w2) := Hb1.out.trans (hb2.mono Hb1.out.size)
  clear hb2
  go_wp2_with fail
  go_ret
  exact ⟨rfl, Hb2.out⟩
end Go.Proofs.YtijgonjnmibifaaGreatDoor
