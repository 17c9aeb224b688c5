/- laws.FnExactStateRight. -/
import Derived.Test.YtfaameimocjaiaaDoorStRightI
import Derived.Test.YtfaameimocjaiaaDoorStRightS
import Derived.Test.YtfaameimocjaiaaDoorStSz
import Derived.Test.YtfaameimocjaiaaDoorStTo
import Derived.Test.YtfaameimocjaiaaDoorPrgTo
import Derived.Test.YtfaameimocjaiaaDoorPrgEq
namespace Go.Proofs.YtfaameimocjaiaaDoor
open Go.RowKit

theorem toStateA {B : Nat} (x y z : Value) (s : StM) (w : World) (hr : StRow B w x y z s) (hn : s.bulk ≤ 1048576) :
    Calls Tryd.prog 22 #[.agg #[x, y, z, .int .i64 s.fuel, .bool s.done, .int .i64 s.value, .int .i64 s.trap]] w fun e w' => ∃ A c D d E f, e = .returned (.agg #[.slice A s.frames.length c, .slice D s.heap.length d, .slice E s.out.length f, .int .i64 s.fuel, .bool s.done, .int .i64 s.value, .int .i64 s.trap]) ∧ StRow w.heap.size w' (.slice A s.frames.length c) (.slice D s.heap.length d) (.slice E s.out.length f) s ∧ Below w.heap.size w w' := by
  refine Calls.mono (toState x y z s w hr hn) ?_
  rintro e w' ⟨x', y', z', rfl, hP, hb⟩
  obtain ⟨A, c, rfl⟩ := hP.1.form
  obtain ⟨D, d, rfl⟩ := hP.2.1.form
  obtain ⟨E, f, rfl⟩ := hP.2.2.form
  exact ⟨A, c, D, d, E, f, rfl, hP, hb⟩

theorem toPrgA {B : Nat} (v : Value) (p : List FnM) (w : World) (hr : FnRow B w v p) (hn : bulk p ≤ 1048576) :
    Calls Tryd.prog 8 #[.agg #[v]] w fun e w' => ∃ A c, e = .returned (.agg #[.slice A p.length c]) ∧ FnRow w.heap.size w' (.slice A p.length c) p ∧ Below w.heap.size w w' := by
  refine Calls.mono (toPrg v p w hr hn) ?_
  rintro e w' ⟨v', rfl, hP, hb⟩
  obtain ⟨A, c, rfl⟩ := hP.form
  exact ⟨A, c, rfl, hP, hb⟩

set_option maxRecDepth 100000 in
set_option maxHeartbeats 6400000 in
theorem lawExactStateRight (v0 v1 : Value) (w : World) (i0 : IsProgram w v0) (i1 : IsState w v1) (tab : Tab w) :
    Calls Tryd.prog 5 #[v0, v1] w fun e w' => e = .returned (.bool true) ∧ Below w.heap.size w w' := by
  obtain ⟨v, p, rfl, hr, hok⟩ := i0
  obtain ⟨x', y', z', t, rfl, ht, hokt⟩ := i1
  obtain ⟨A, cap, rfl⟩ := hr.form
  obtain ⟨D1, d1, rfl⟩ := ht.1.form
  obtain ⟨D2, d2, rfl⟩ := ht.2.1.form
  obtain ⟨D3, d3, rfl⟩ := ht.2.2.form
  have Hr : Hid (FnRow 0 w (.slice A p.length cap) p) := hr
  have Hs : Hid (StRow 0 w (.slice D1 t.frames.length d1) (.slice D2 t.heap.length d2) (.slice D3 t.out.length d3) t) := ht
  have Ht : Hid (Tab w) := tab
  have Hok : Hid (∀ g ∈ p, g.ok) := hok
  have Hokt : Hid t.ok := hokt
  clear hr ht tab hok hokt
  unfold stV
  obtain ⟨x0, x1, x2⟩ := boxes_new w #[.slice A p.length cap] #[.slice D1 t.frames.length d1, .slice D2 t.heap.length d2, .slice D3 t.out.length d3, .int .i64 t.fuel, .bool t.done, .int .i64 t.value, .int .i64 t.trap] 24 48
  have X0 : Hid (Box _ w.heap.size #[.slice A p.length cap]) := x0
  have X1 : Hid (StBox _ (w.heap.size + 1) (.slice D1 t.frames.length d1) (.slice D2 t.heap.length d2) (.slice D3 t.out.length d3) t) := x1
  have X2 : Hid (Below w.heap.size w _) := x2
  clear x0 x1 x2
  go_enter Tryd.func5, Tryd.ntmps5
  go_wp2_with fail
  refine (szPrg _ p 1048576 _ (Hr.out.below X2.out) (by omega) (by omega)).mono ?_
  rintro e w1 ⟨rfl, hb1⟩
  have Hb1 : Hid (Below w.heap.size w w1) := X2.out.trans (hb1.mono X2.out.size)
  have Hk : Hid (∀ w', Below w1.heap.size w1 w' → (w'.cell? ⟨w.heap.size, 0, none⟩ = some (.slice A p.length cap) ∧ w.heap.size < w'.heap.size) ∧ StBox w' (w.heap.size + 1) (.slice D1 t.frames.length d1) (.slice D2 t.heap.length d2) (.slice D3 t.out.length d3) t ∧ FnRow 0 w' (.slice A p.length cap) p ∧ StRow 0 w' (.slice D1 t.frames.length d1) (.slice D2 t.heap.length d2) (.slice D3 t.out.length d3) t ∧ Tab w') := by
    intro w' h
    have b0 := (X0.out.below hb1).below h
    exact ⟨⟨b0.at0, b0.1⟩, (X1.out.below hb1).below h, (Hr.out.below Hb1.out).below h, (Hs.out.below Hb1.out).below h, (Ht.out.below Hb1.out).below h⟩
  clear hb1 X0 X1 X2 Hr Hs Ht
  obtain ⟨e7, e0, e1, e2, e3, e4, e5, e6⟩ := (Hk.out w1 (Below.refl _ _)).2.1.cells
  by_cases hc : bulk p ≤ 1048576
  case neg =>
    rw [show less 1048576 (bulk p) = -1 by unfold less; rw [if_neg (by omega)]]
    go_wp2_with fail
    go_ret
    exact ⟨rfl, Hb1.out⟩
  rw [show less 1048576 (bulk p) = 1048576 - bulk p by unfold less; rw [if_pos (by omega)]]
  go_wp2_with fail
  refine (szState (.slice D1 t.frames.length d1) (.slice D2 t.heap.length d2) (.slice D3 t.out.length d3) t _ _ (Hk.out w1 (Below.refl _ _)).2.2.2.1 (by omega) (by omega)).mono ?_
  rintro e w2 ⟨rfl, hb2⟩
  have Hb2 : Hid (Below w1.heap.size w1 w2) := hb2
  clear hb2 e7 e0 e1 e2 e3 e4 e5 e6
  by_cases hd : (t.bulk : Int) ≤ 1048576 - bulk p
  case neg =>
    rw [show less (1048576 - (bulk p : Int)) t.bulk = -1 by unfold less; rw [if_neg (by omega)]]
    go_wp2_with fail
    go_ret
    exact ⟨rfl, Hb1.out.trans (Hb2.out.mono Hb1.out.size)⟩
  rw [show less (1048576 - (bulk p : Int)) t.bulk = 1048576 - bulk p - t.bulk by unfold less; rw [if_pos (by omega)]]
  have hd' : t.bulk ≤ 1048576 := by omega
  obtain ⟨c0, c1⟩ := (Hk.out w2 Hb2.out).1
  obtain ⟨e7, e0, e1, e2, e3, e4, e5, e6⟩ := (Hk.out w2 Hb2.out).2.1.cells
  go_upto_region 8 with fail
  go_cut [6] (fun q wc => (∃ b : Bool, q = .bool b ∧ (b = true ↔ StRightS p t)) ∧ Below w1.heap.size w1 wc)
  case first =>
    go_region_with (first
      | (go_at_call 8; refine (toPrgA (.slice A p.length cap) p _ (Hk.out _ (by first | exact Hb2.out.drew | exact hbQ)).2.2.1 hc).mono ?_; rintro e wP ⟨P1, p1, rfl, hP, hbP0⟩
         have hbP : Below w1.heap.size w1 wP := (by first | exact Hb2.out.drew.trans (hbP0.mono Hb2.out.size) | exact hbQ.trans (hbP0.mono hbQ.size))
         obtain ⟨f7, f0, f1, f2, f3, f4, f5, f6⟩ := (Hk.out wP hbP).2.1.cells)
      | (go_at_call 22; refine (toStateA (.slice D1 t.frames.length d1) (.slice D2 t.heap.length d2) (.slice D3 t.out.length d3) t _ (Hk.out _ (by first | exact Hb2.out.drew | exact hbP)).2.2.2.1 hd').mono ?_; rintro e wQ ⟨Q1, q1, Q2, q2, Q3, q3, rfl, hQ, hbQ0⟩
         have hbQ : Below w1.heap.size w1 wQ := (by first | exact Hb2.out.drew.trans (hbQ0.mono Hb2.out.size) | exact hbP.trans (hbQ0.mono hbP.size))
         obtain ⟨g0, g1⟩ := (Hk.out wQ hbQ).1)
      | (go_at_call 21; refine (specStRight (.slice P1 p.length p1) (.slice Q1 t.frames.length q1) (.slice Q2 t.heap.length q2) (.slice Q3 t.out.length q3) p t _ (by first | exact hP.lower (Nat.zero_le _) | exact (hP.lower (Nat.zero_le _)).below hbQ0) Hok.out (by first | exact hQ.lower (Nat.zero_le _) | exact (hQ.lower (Nat.zero_le _)).below hbP0) Hokt.out).mono ?_; rintro e wT ⟨bT, rfl, hbT0, hiT⟩
         have hbT : Below w1.heap.size w1 wT := (by first | exact hbQ.trans (hbT0.mono hbQ.size) | exact hbP.trans (hbT0.mono hbP.size))))
    all_goals
      go_wp2_with fail
      go_meet
      exact ⟨⟨_, rfl, hiT⟩, hbT⟩
  case rest =>
    obtain ⟨⟨bw, rfl, hbw⟩, hwc⟩ := hcut
    have Hbw : Hid (bw = true ↔ StRightS p t) := hbw
    have Hc : Hid (Below w1.heap.size w1 wc) := hwc
    clear c0 c1 e0 e1 e2 e3 e4 e5 e6 e7 hwc hbw
    obtain ⟨c0, c1⟩ := (Hk.out wc Hc.out).1
    go_wp2_with fail
    refine (toPrgA (.slice A p.length cap) p _ (Hk.out _ Hc.out).2.2.1 hc).mono ?_
    rintro e w4 ⟨P1, p1, rfl, hX, hb4⟩
    have Hb4 : Hid (Below w1.heap.size w1 w4) := Hc.out.trans (hb4.mono Hc.out.size)
    have HX : Hid (FnRow 0 w4 (.slice P1 p.length p1) p) := hX.lower (Nat.zero_le _)
    have hal4 : Below w4.heap.size w4 (w4.alloc (.cells #[.slice P1 p.length p1] 29)) := (Below.refl _ _).alloc (Nat.le_refl _) _
    have Hal4 : Hid (Below w4.heap.size w4 (w4.alloc (.cells #[.slice P1 p.length p1] 29))) := hal4
    have Hb4a : Hid (Below w1.heap.size w1 (w4.alloc (.cells #[.slice P1 p.length p1] 29))) := Hb4.out.trans (hal4.mono Hb4.out.size)
    have B4 : Hid (Box (w4.alloc (.cells #[.slice P1 p.length p1] 29)) w4.heap.size #[.slice P1 p.length p1]) := box_new w4 _ 29
    clear c0 c1 hX hb4 hal4
    obtain ⟨e7, e0, e1, e2, e3, e4, e5, e6⟩ := (Hk.out w4 Hb4.out).2.1.cells
    go_wp2_with fail
    refine (toStateA (.slice D1 t.frames.length d1) (.slice D2 t.heap.length d2) (.slice D3 t.out.length d3) t _ (Hk.out _ Hb4a.out).2.2.2.1 hd').mono ?_
    rintro e w6 ⟨Q1, q1, Q2, q2, Q3, q3, rfl, hY, hb6⟩
    have Hb6 : Hid (Below w1.heap.size w1 w6) := Hb4a.out.trans (hb6.mono Hb4a.out.size)
    have HX6 : Hid (FnRow 0 w6 (.slice P1 p.length p1) p) := (HX.out.below Hal4.out).below hb6
    have HY6 : Hid (StRow 0 w6 (.slice Q1 t.frames.length q1) (.slice Q2 t.heap.length q2) (.slice Q3 t.out.length q3) t) := hY.lower (Nat.zero_le _)
    have B6 : Hid (Box w6 w4.heap.size #[.slice P1 p.length p1]) := B4.out.below hb6
    have hal6 : Below w6.heap.size w6 (w6.alloc (.cells #[.slice Q1 t.frames.length q1, .slice Q2 t.heap.length q2, .slice Q3 t.out.length q3, .int .i64 t.fuel, .bool t.done, .int .i64 t.value, .int .i64 t.trap] 37)) := (Below.refl _ _).alloc (Nat.le_refl _) _
    obtain ⟨w7, hw7⟩ : ∃ w7, w7 = w6.alloc (.cells #[.slice Q1 t.frames.length q1, .slice Q2 t.heap.length q2, .slice Q3 t.out.length q3, .int .i64 t.fuel, .bool t.done, .int .i64 t.value, .int .i64 t.trap] 37) := ⟨_, rfl⟩
    rw [← hw7] at hal6
    have C6 : Hid (StBox w7 w6.heap.size (.slice Q1 t.frames.length q1) (.slice Q2 t.heap.length q2) (.slice Q3 t.out.length q3) t) := by rw [hw7]; exact stBox_new w6 _ _ _ t 37
    have Hk2 : Hid (∀ w', Below w7.heap.size w7 w' → (w'.cell? ⟨w4.heap.size, 0, none⟩ = some (.slice P1 p.length p1) ∧ w4.heap.size < w'.heap.size) ∧ StBox w' w6.heap.size (.slice Q1 t.frames.length q1) (.slice Q2 t.heap.length q2) (.slice Q3 t.out.length q3) t ∧ FnRow 0 w' (.slice P1 p.length p1) p ∧ StRow 0 w' (.slice Q1 t.frames.length q1) (.slice Q2 t.heap.length q2) (.slice Q3 t.out.length q3) t ∧ Below w1.heap.size w1 w') := by
      intro w' h
      have b := (B6.out.below hal6).below h
      exact ⟨⟨b.at0, b.1⟩, C6.out.below h, (HX6.out.below hal6).below h, (HY6.out.below hal6).below h, Hb6.out.trans ((hal6.trans (h.mono hal6.size)).mono Hb6.out.size)⟩
    have c0 := B6.out.at0
    have c1 := B6.out.1
    have hir := implStRight (.slice P1 p.length p1) (.slice Q1 t.frames.length q1) (.slice Q2 t.heap.length q2) (.slice Q3 t.out.length q3) p t w7 ((Hk.out _ (Hk2.out _ (Below.refl _ _)).2.2.2.2).2.2.2.2) (Hk2.out _ (Below.refl _ _)).2.2.1 (Hk2.out _ (Below.refl _ _)).2.2.2.1 Hokt.out
    have Hir : Hid (Calls Tryd.prog 23 #[.agg #[.slice P1 p.length p1], .agg #[.slice Q1 t.frames.length q1, .slice Q2 t.heap.length q2, .slice Q3 t.out.length q3, .int .i64 t.fuel, .bool t.done, .int .i64 t.value, .int .i64 t.trap]] w7 fun e w' => FrTold (StRightI p t) w7 w' e) := hir
    clear e0 e1 e2 e3 e4 e5 e6 e7 hY hb6 B4 B6 C6 hal6 hir
    go_wp2_with fail
    rw [← hw7]
    refine Calls.mono (R := fun e w' => FrTold (StRightI p t) w7 w' e) Hir.out ?_
    rintro e w8 ⟨bi, rfl, hb8, hbi⟩
    obtain rfl : bi = bw := by rw [Bool.eq_iff_iff, hbi, Hbw.out]; exact stRight_iff
    have Hb8 : Hid (Below w7.heap.size w7 w8) := hb8
    have H18 : Hid (Below w1.heap.size w1 w8) := (Hk2.out w8 hb8).2.2.2.2
    clear c0 c1 hb8 HX6 HY6 HX Hb4a hw7 Hir hbi
    obtain ⟨c0, c1⟩ := (Hk.out w8 H18.out).1
    obtain ⟨e0, e1⟩ := (Hk2.out w8 Hb8.out).1
    go_upto_region 14 with fail
    go_cut [39] (fun q wc => q = .bool false ∧ Below w7.heap.size w7 wc)
    case first =>
      go_region_with (first
        | (go_at_call 8; refine (toPrgA (.slice A p.length cap) p _ (Hk.out _ H18.out.drew).2.2.1 hc).mono ?_; rintro e wP ⟨R1, r1, rfl, hP, hbP⟩
           have hbP' := Hb8.out.drew.trans (hbP.mono Hb8.out.size)
           obtain ⟨f0, f1⟩ := (Hk2.out wP hbP').1)
        | (go_at_call 10; refine (eqPrg _ _ p _ (Hk2.out wP hbP').2.2.1 hP).mono ?_; rintro e wQ ⟨rfl, hbQ⟩
           have hbQ' := hbP'.trans (hbQ.mono hbP'.size)))
      all_goals
        go_wp2_with fail
        go_meet
        exact ⟨rfl, hbQ'⟩
    case rest =>
      obtain ⟨rfl, hwc⟩ := hcut
      have Hb9 : Hid (Below w7.heap.size w7 wc) := hwc
      have H19 : Hid (Below w1.heap.size w1 wc) := (Hk2.out wc hwc).2.2.2.2
      clear c0 c1 e0 e1 hwc
      obtain ⟨c7, c0, c1, c2, c3, c4, c5, c6⟩ := (Hk.out wc H19.out).2.1.cells
      obtain ⟨e7, e0, e1, e2, e3, e4, e5, e6⟩ := (Hk2.out wc Hb9.out).2.1.cells
      go_upto_region 16 with fail
      go_cut [44] (fun q we => q = .bool false ∧ Below w.heap.size w we)
      case first =>
        go_region_with (first
          | (go_at_call 22; refine (toStateA (.slice D1 t.frames.length d1) (.slice D2 t.heap.length d2) (.slice D3 t.out.length d3) t _ (Hk.out _ H19.out.drew).2.2.2.1 hd').mono ?_; rintro e wP ⟨R1, r1, R2, r2, R3, r3, rfl, hP, hbP⟩
             have hbP' := Hb9.out.drew.trans (hbP.mono Hb9.out.size)
             obtain ⟨f7, f0, f1, f2, f3, f4, f5, f6⟩ := (Hk2.out wP hbP').2.1.cells)
          | (go_at_call 14; refine (eqState (.slice Q1 t.frames.length q1) (.slice Q2 t.heap.length q2) (.slice Q3 t.out.length q3) (.slice R1 t.frames.length r1) (.slice R2 t.heap.length r2) (.slice R3 t.out.length r3) t _ (Hk2.out wP hbP').2.2.2.1 hP).mono ?_; rintro e wQ ⟨rfl, hbQ⟩
             have hbQ' : Below w.heap.size w wQ := Hb1.out.trans ((Hk2.out wQ (hbP'.trans (hbQ.mono hbP'.size))).2.2.2.2.mono Hb1.out.size)))
        all_goals
          go_wp2_with fail
          go_meet
          exact ⟨rfl, hbQ'⟩
      case rest =>
        obtain ⟨rfl, hwe⟩ := hcut
        have He : Hid (Below w.heap.size w wc) := hwe
        clear hwe
        go_wp2_with fail
        go_ret
        exact ⟨rfl, He.out⟩
end Go.Proofs.YtfaameimocjaiaaDoor
