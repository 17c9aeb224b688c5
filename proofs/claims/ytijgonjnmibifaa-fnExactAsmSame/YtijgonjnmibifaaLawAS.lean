/- laws.FnExactAsmSame. -/
import Derived.Test.YtijgonjnmibifaaSameAI
import Derived.Test.YtijgonjnmibifaaSameAS
import Derived.Test.YtijgonjnmibifaaAmSz
import Derived.Test.YtijgonjnmibifaaAmTo
import Derived.Test.YtijgonjnmibifaaAmEq
import Derived.Test.YtijgonjnmibifaaArgsA
namespace Go.Proofs.Ytijgonjnmibifaa
open Go.RowKit

theorem toAsmA {B : Nat} (x y : Value) (a : AsM) (w : World) (hr : AsRow B w x y a) (hn : a.bulk ≤ 1048576) :
    Calls Try.prog 6 #[.agg #[.int .i64 a.func, x, y]] w fun e w' => ∃ A c D d, e = .returned (.agg #[.int .i64 a.func, .slice A a.code.length c, .slice D a.maps.length d]) ∧ AsRow w.heap.size w' (.slice A a.code.length c) (.slice D a.maps.length d) a ∧ Below w.heap.size w w' := toAsm x y a w hr hn

set_option maxRecDepth 100000 in
set_option maxHeartbeats 6400000 in
theorem lawExactAsmSame (v0 v1 : Value) (w : World) (i0 : IsAsm w v0) (i1 : IsAsm w v1) :
    Calls Try.prog 3 #[v0, v1] w fun e w' => e = .returned (.bool true) ∧ Below w.heap.size w w' := by
  obtain ⟨x, y, s, rfl, hr, _⟩ := i0
  obtain ⟨x', y', t, rfl, ht, _⟩ := i1
  obtain ⟨A1, a1, rfl⟩ := hr.1.form
  obtain ⟨A2, a2, rfl⟩ := hr.2.form
  obtain ⟨D1, d1, rfl⟩ := ht.1.form
  obtain ⟨D2, d2, rfl⟩ := ht.2.form
  have Hr : Hid (AsRow 0 w (.slice A1 s.code.length a1) (.slice A2 s.maps.length a2) s) := hr
  have Hs : Hid (AsRow 0 w (.slice D1 t.code.length d1) (.slice D2 t.maps.length d2) t) := ht
  clear hr ht
  unfold asV
  obtain ⟨x0, x1, x2⟩ := boxes_new w #[.int .i64 s.func, .slice A1 s.code.length a1, .slice A2 s.maps.length a2] #[.int .i64 t.func, .slice D1 t.code.length d1, .slice D2 t.maps.length d2] 25 25
  have X0 : Hid (AsBox _ w.heap.size (.slice A1 s.code.length a1) (.slice A2 s.maps.length a2) s) := x0
  have X1 : Hid (AsBox _ (w.heap.size + 1) (.slice D1 t.code.length d1) (.slice D2 t.maps.length d2) t) := x1
  have X2 : Hid (Below w.heap.size w _) := x2
  clear x0 x1 x2
  go_enter Try.func3, Try.ntmps3
  go_wp2_with fail
  refine (szAsm (.slice A1 s.code.length a1) (.slice A2 s.maps.length a2) s 1048576 _ (Hr.out.below X2.out) (by omega) (by omega)).mono ?_
  rintro e w1 ⟨rfl, hb1⟩
  have Hb1 : Hid (Below w.heap.size w w1) := X2.out.trans (hb1.mono X2.out.size)
  have Hk : Hid (∀ w', Below w1.heap.size w1 w' → AsBox w' w.heap.size (.slice A1 s.code.length a1) (.slice A2 s.maps.length a2) s ∧ AsBox w' (w.heap.size + 1) (.slice D1 t.code.length d1) (.slice D2 t.maps.length d2) t ∧ AsRow 0 w' (.slice A1 s.code.length a1) (.slice A2 s.maps.length a2) s ∧ AsRow 0 w' (.slice D1 t.code.length d1) (.slice D2 t.maps.length d2) t) := by
    intro w' h
    exact ⟨(X0.out.below hb1).below h, (X1.out.below hb1).below h, (Hr.out.below Hb1.out).below h, (Hs.out.below Hb1.out).below h⟩
  clear hb1 X0 X1 X2 Hr Hs
  obtain ⟨e7, e0, e1, e2⟩ := (Hk.out w1 (Below.refl _ _)).2.1.cells
  by_cases hc : s.bulk ≤ 1048576
  case neg =>
    rw [show less 1048576 s.bulk = -1 by unfold less; rw [if_neg (by omega)]]
    go_wp2_with fail
    go_ret
    exact ⟨rfl, Hb1.out⟩
  rw [show less 1048576 s.bulk = 1048576 - s.bulk by unfold less; rw [if_pos (by omega)]]
  go_wp2_with fail
  refine (szAsm (.slice D1 t.code.length d1) (.slice D2 t.maps.length d2) t _ _ (Hk.out w1 (Below.refl _ _)).2.2.2 (by omega) (by omega)).mono ?_
  rintro e w2 ⟨rfl, hb2⟩
  have Hb2 : Hid (Below w1.heap.size w1 w2) := hb2
  clear hb2 e7 e0 e1 e2
  by_cases hd : (t.bulk : Int) ≤ 1048576 - s.bulk
  case neg =>
    rw [show less (1048576 - (s.bulk : Int)) t.bulk = -1 by unfold less; rw [if_neg (by omega)]]
    go_wp2_with fail
    go_ret
    exact ⟨rfl, Hb1.out.trans (Hb2.out.mono Hb1.out.size)⟩
  rw [show less (1048576 - (s.bulk : Int)) t.bulk = 1048576 - s.bulk - t.bulk by unfold less; rw [if_pos (by omega)]]
  have hd' : t.bulk ≤ 1048576 := by omega
  obtain ⟨c7, c0, c1, c2⟩ := (Hk.out w2 Hb2.out).1.cells
  obtain ⟨e7, e0, e1, e2⟩ := (Hk.out w2 Hb2.out).2.1.cells
  go_upto_region 8 with fail
  go_cut [6] (fun q wc => q = .bool (decide (s = t)) ∧ Below w1.heap.size w1 wc)
  case first =>
    go_region_with (first
      | (go_at_call_of 6 (Value.int .i64 s.func); refine (toAsmA (.slice A1 s.code.length a1) (.slice A2 s.maps.length a2) s _ (Hk.out _ (by first | exact Hb2.out.drew | exact hbQ)).2.2.1 hc).mono ?_; rintro e wP ⟨P1, p1, P2, p2, rfl, hP, hbP0⟩
         have hbP : Below w1.heap.size w1 wP := (by first | exact Hb2.out.drew.trans (hbP0.mono Hb2.out.size) | exact hbQ.trans (hbP0.mono hbQ.size))
         obtain ⟨f7, f0, f1, f2⟩ := (Hk.out wP hbP).2.1.cells)
      | (go_at_call_of 6 (Value.int .i64 t.func); refine (toAsmA (.slice D1 t.code.length d1) (.slice D2 t.maps.length d2) t _ (Hk.out _ (by first | exact Hb2.out.drew | exact hbP)).2.2.2 hd').mono ?_; rintro e wQ ⟨Q1, q1, Q2, q2, rfl, hQ, hbQ0⟩
         have hbQ : Below w1.heap.size w1 wQ := (by first | exact Hb2.out.drew.trans (hbQ0.mono Hb2.out.size) | exact hbP.trans (hbQ0.mono hbP.size))
         obtain ⟨g7, g0, g1, g2⟩ := (Hk.out wQ hbQ).1.cells)
      | (go_at_call 5; refine (specSameAs (.slice P1 s.code.length p1) (.slice P2 s.maps.length p2) (.slice Q1 t.code.length q1) (.slice Q2 t.maps.length q2) s t _ (by first | exact hP | exact hP.below hbQ0) (by first | exact hQ | exact hQ.below hbP0)).mono ?_; rintro e wT ⟨rfl, hbT0⟩
         have hbT : Below w1.heap.size w1 wT := (by first | exact hbQ.trans (hbT0.mono hbQ.size) | exact hbP.trans (hbT0.mono hbP.size))))
    all_goals
      go_wp2_with fail
      go_meet
      exact ⟨rfl, hbT⟩
  case rest =>
    obtain ⟨rfl, hwc⟩ := hcut
    have Hc : Hid (Below w1.heap.size w1 wc) := hwc
    clear c0 c1 c2 c7 e0 e1 e2 e7 hwc
    obtain ⟨c7, c0, c1, c2⟩ := (Hk.out wc Hc.out).1.cells
    go_wp2_with fail
    refine (toAsmA (.slice A1 s.code.length a1) (.slice A2 s.maps.length a2) s _ (Hk.out _ Hc.out).2.2.1 hc).mono ?_
    rintro e w4 ⟨P1, p1, P2, p2, rfl, hX, hb4⟩
    have Hb4 : Hid (Below w1.heap.size w1 w4) := Hc.out.trans (hb4.mono Hc.out.size)
    have HX : Hid (AsRow 0 w4 (.slice P1 s.code.length p1) (.slice P2 s.maps.length p2) s) := hX.lower (Nat.zero_le _)
    have hal4 : Below w4.heap.size w4 (w4.alloc (.cells #[.int .i64 s.func, .slice P1 s.code.length p1, .slice P2 s.maps.length p2] 31)) := (Below.refl _ _).alloc (Nat.le_refl _) _
    have Hal4 : Hid (Below w4.heap.size w4 (w4.alloc (.cells #[.int .i64 s.func, .slice P1 s.code.length p1, .slice P2 s.maps.length p2] 31))) := hal4
    have Hb4a : Hid (Below w1.heap.size w1 (w4.alloc (.cells #[.int .i64 s.func, .slice P1 s.code.length p1, .slice P2 s.maps.length p2] 31))) := Hb4.out.trans (hal4.mono Hb4.out.size)
    have B4 : Hid (AsBox (w4.alloc (.cells #[.int .i64 s.func, .slice P1 s.code.length p1, .slice P2 s.maps.length p2] 31)) w4.heap.size (.slice P1 s.code.length p1) (.slice P2 s.maps.length p2) s) := asBox_new w4 _ _ s 31
    clear c0 c1 c2 c7 hX hb4 hal4
    obtain ⟨e7, e0, e1, e2⟩ := (Hk.out w4 Hb4.out).2.1.cells
    go_wp2_with fail
    refine (toAsmA (.slice D1 t.code.length d1) (.slice D2 t.maps.length d2) t _ (Hk.out _ Hb4a.out).2.2.2 hd').mono ?_
    rintro e w6 ⟨Q1, q1, Q2, q2, rfl, hY, hb6⟩
    have Hb6 : Hid (Below w1.heap.size w1 w6) := Hb4a.out.trans (hb6.mono Hb4a.out.size)
    have HX6 : Hid (AsRow 0 w6 (.slice P1 s.code.length p1) (.slice P2 s.maps.length p2) s) := (HX.out.below Hal4.out).below hb6
    have HY6 : Hid (AsRow 0 w6 (.slice Q1 t.code.length q1) (.slice Q2 t.maps.length q2) t) := hY.lower (Nat.zero_le _)
    have B6 : Hid (AsBox w6 w4.heap.size (.slice P1 s.code.length p1) (.slice P2 s.maps.length p2) s) := B4.out.below hb6
    have hal6 : Below w6.heap.size w6 (w6.alloc (.cells #[.int .i64 t.func, .slice Q1 t.code.length q1, .slice Q2 t.maps.length q2] 31)) := (Below.refl _ _).alloc (Nat.le_refl _) _
    obtain ⟨w7, hw7⟩ : ∃ w7, w7 = w6.alloc (.cells #[.int .i64 t.func, .slice Q1 t.code.length q1, .slice Q2 t.maps.length q2] 31) := ⟨_, rfl⟩
    rw [← hw7] at hal6
    have C6 : Hid (AsBox w7 w6.heap.size (.slice Q1 t.code.length q1) (.slice Q2 t.maps.length q2) t) := by rw [hw7]; exact asBox_new w6 _ _ t 31
    have Hk2 : Hid (∀ w', Below w7.heap.size w7 w' → AsBox w' w4.heap.size (.slice P1 s.code.length p1) (.slice P2 s.maps.length p2) s ∧ AsBox w' w6.heap.size (.slice Q1 t.code.length q1) (.slice Q2 t.maps.length q2) t ∧ AsRow 0 w' (.slice P1 s.code.length p1) (.slice P2 s.maps.length p2) s ∧ AsRow 0 w' (.slice Q1 t.code.length q1) (.slice Q2 t.maps.length q2) t ∧ Below w1.heap.size w1 w') := by
      intro w' h
      exact ⟨(B6.out.below hal6).below h, C6.out.below h, (HX6.out.below hal6).below h, (HY6.out.below hal6).below h, Hb6.out.trans ((hal6.trans (h.mono hal6.size)).mono Hb6.out.size)⟩
    obtain ⟨c7, c0, c1, c2⟩ := B6.out.cells
    clear e0 e1 e2 e7 hY hb6 B4 B6 C6 hal6
    go_wp2_with fail
    rw [← hw7]
    refine (implSameAs (.slice P1 s.code.length p1) (.slice P2 s.maps.length p2) (.slice Q1 t.code.length q1) (.slice Q2 t.maps.length q2) s t _ (Hk2.out _ (Below.refl _ _)).2.2.1 (Hk2.out _ (Below.refl _ _)).2.2.2.1).mono ?_
    rintro e w8 ⟨rfl, hb8⟩
    have Hb8 : Hid (Below w7.heap.size w7 w8) := hb8
    have H18 : Hid (Below w1.heap.size w1 w8) := (Hk2.out w8 hb8).2.2.2.2
    clear c0 c1 c2 c7 hb8 HX6 HY6 HX Hb4a hw7
    obtain ⟨c7, c0, c1, c2⟩ := (Hk.out w8 H18.out).1.cells
    obtain ⟨e7, e0, e1, e2⟩ := (Hk2.out w8 Hb8.out).1.cells
    go_upto_region 14 with fail
    go_cut [39] (fun q wc => q = .bool false ∧ Below w7.heap.size w7 wc)
    case first =>
      go_region_with (first
        | (go_at_call 6; refine (toAsmA (.slice A1 s.code.length a1) (.slice A2 s.maps.length a2) s _ (Hk.out _ H18.out.drew).2.2.1 hc).mono ?_; rintro e wP ⟨R1, r1, R2, r2, rfl, hP, hbP⟩
           have hbP' := Hb8.out.drew.trans (hbP.mono Hb8.out.size)
           obtain ⟨f7, f0, f1, f2⟩ := (Hk2.out wP hbP').1.cells)
        | (go_at_call 8; refine (eqAsm (.slice P1 s.code.length p1) (.slice P2 s.maps.length p2) (.slice R1 s.code.length r1) (.slice R2 s.maps.length r2) s _ (Hk2.out wP hbP').2.2.1 hP).mono ?_; rintro e wQ ⟨rfl, hbQ⟩
           have hbQ' := hbP'.trans (hbQ.mono hbP'.size)))
      all_goals
        go_wp2_with fail
        go_meet
        exact ⟨rfl, hbQ'⟩
    case rest =>
      obtain ⟨rfl, hwc⟩ := hcut
      have Hb9 : Hid (Below w7.heap.size w7 wc) := hwc
      have H19 : Hid (Below w1.heap.size w1 wc) := (Hk2.out wc hwc).2.2.2.2
      clear c0 c1 c2 c7 e0 e1 e2 e7 hwc
      obtain ⟨c7, c0, c1, c2⟩ := (Hk.out wc H19.out).2.1.cells
      obtain ⟨e7, e0, e1, e2⟩ := (Hk2.out wc Hb9.out).2.1.cells
      go_upto_region 16 with fail
      go_cut [44] (fun q we => q = .bool false ∧ Below w.heap.size w we)
      case first =>
        go_region_with (first
          | (go_at_call 6; refine (toAsmA (.slice D1 t.code.length d1) (.slice D2 t.maps.length d2) t _ (Hk.out _ H19.out.drew).2.2.2 hd').mono ?_; rintro e wP ⟨R1, r1, R2, r2, rfl, hP, hbP⟩
             have hbP' := Hb9.out.drew.trans (hbP.mono Hb9.out.size)
             obtain ⟨f7, f0, f1, f2⟩ := (Hk2.out wP hbP').2.1.cells)
          | (go_at_call 8; refine (eqAsm (.slice Q1 t.code.length q1) (.slice Q2 t.maps.length q2) (.slice R1 t.code.length r1) (.slice R2 t.maps.length r2) t _ (Hk2.out wP hbP').2.2.2.1 hP).mono ?_; rintro e wQ ⟨rfl, hbQ⟩
             have hbQ' : Below w.heap.size w wQ := Hb1.out.trans ((Hk2.out wQ (hbP'.trans (hbQ.mono hbP'.size))).2.2.2.2.mono Hb1.out.size)))
        all_goals
          go_wp2_with fail
          go_meet
          exact ⟨rfl, hbQ'⟩
      case rest =>
        obtain ⟨rfl, hwe⟩ := hcut
        have He : Hid (Below w.heap.size w wc) := hwe
        clear hwe
        go_wp2_with fail
        go_ret
        exact ⟨rfl, He.out⟩
end Go.Proofs.Ytijgonjnmibifaa
