/- laws.FnExactFuncSame. -/
import Derived.Test.YtchlheionnfknaaSameW
import Derived.Test.YtchlheionnfknaaPrgSz
import Derived.Test.YtchlheionnfknaaPrgTo
import Derived.Test.YtchlheionnfknaaArgs
namespace Go.Proofs.Ytchlheionnfknaa
open Go.RowKit

set_option maxRecDepth 100000 in
set_option maxHeartbeats 3200000 in
theorem lawExactFuncSame (v0 v1 : Value) (w : World) (i0 : IsFunc w v0) (i1 : IsFunc w v1) :
    Calls Try.prog 3 #[v0, v1] w fun e w' => e = .returned (.bool true) ∧ Below w.heap.size w w' := by
  obtain ⟨x, y, u, c, rfl, hr, _⟩ := i0
  obtain ⟨x', y', v, d, rfl, ht, _⟩ := i1
  have Hr : Hid (InsRow 0 w u c) := hr
  have Hs : Hid (InsRow 0 w v d) := ht
  obtain ⟨A, cap, rfl⟩ := hr.form
  obtain ⟨D, dap, rfl⟩ := ht.form
  clear hr ht
  obtain ⟨x0, x1, x2⟩ := boxes_new w #[.int .i64 x, .int .i64 y, .slice A c.length cap] #[.int .i64 x', .int .i64 y', .slice D d.length dap] 24 24
  have X0 : Hid (Box _ _ _) := x0
  have X1 : Hid (Box _ _ _) := x1
  have X2 : Hid (Below _ _ _) := x2
  clear x0 x1 x2
  go_enter Try.func3, Try.ntmps3
  go_wp2_with fail
  refine (szFn _ _ _ c 1048576 _ (Hr.out.below X2.out) (by omega) (by omega)).mono ?_
  rintro e w1 ⟨rfl, hb1⟩
  have Hb1 : Hid (Below w.heap.size w w1) := X2.out.trans (hb1.mono X2.out.size)
  -- what was laid ahead of w1 is kept by every later world
  have Hk : Hid (∀ w', Below w1.heap.size w1 w' → (w'.cell? ⟨w.heap.size, 0, none⟩ = some (.int .i64 x) ∧ w'.cell? ⟨w.heap.size, 1, none⟩ = some (.int .i64 y) ∧ w'.cell? ⟨w.heap.size, 2, none⟩ = some (.slice A c.length cap)) ∧
      (w'.cell? ⟨w.heap.size + 1, 0, none⟩ = some (.int .i64 x') ∧ w'.cell? ⟨w.heap.size + 1, 1, none⟩ = some (.int .i64 y') ∧ w'.cell? ⟨w.heap.size + 1, 2, none⟩ = some (.slice D d.length dap)) ∧
      w.heap.size + 1 < w'.heap.size ∧ InsRow 0 w' (.slice A c.length cap) c ∧ InsRow 0 w' (.slice D d.length dap) d) := by
    intro w' h
    have b0 := (X0.out.below hb1).below h
    have b1 := (X1.out.below hb1).below h
    exact ⟨⟨b0.at0, b0.at1, b0.at2⟩, ⟨b1.at0, b1.at1, b1.at2⟩, b1.1, (Hr.out.below Hb1.out).below h, (Hs.out.below Hb1.out).below h⟩
  clear hb1 X0 X1 X2 Hr Hs
  obtain ⟨⟨c0, c1, c2⟩, ⟨d0, d1, d2⟩, hz, _, _⟩ := Hk.out w1 (Below.refl _ _)
  by_cases hc : c.length ≤ 1048576
  · rw [show less 1048576 c.length = 1048576 - c.length by unfold less; rw [if_pos (by omega)]]
    go_wp2_with fail
    refine (szFn _ _ _ d _ _ (Hk.out w1 (Below.refl _ _)).2.2.2.2 (by omega) (by omega)).mono ?_
    rintro e w2 ⟨rfl, hb2⟩
    have Hb2 : Hid (Below w1.heap.size w1 w2) := hb2
    clear hb2 c0 c1 c2 d0 d1 d2 hz
    by_cases hd : (d.length : Int) ≤ 1048576 - c.length
    · rw [show less (1048576 - (c.length : Int)) d.length = 1048576 - c.length - d.length by unfold less; rw [if_pos (by omega)]]
      obtain ⟨⟨c0, c1, c2⟩, ⟨d0, d1, d2⟩, hz, _, _⟩ := Hk.out w2 Hb2.out
      have hd' : d.length ≤ 1048576 := by omega
      go_upto_region 8 with fail
      go_cut [6] (fun z wc => z = .bool (sameF ⟨x, y, c⟩ ⟨x', y', d⟩) ∧ Below w1.heap.size w1 wc)
      case first =>
        go_region_with (first
          | (go_at_call_of 7 (Value.slice A c.length cap); refine (toFn x y (.slice A c.length cap) c _ (Hk.out _ (by first | exact Hb2.out.drew | exact hbQ)).2.2.2.1 hc).mono ?_; rintro e wP ⟨vP, rfl, hP, hbP0⟩
             have hbP : Below w1.heap.size w1 wP := by first | exact Hb2.out.drew.trans (hbP0.mono Hb2.out.size) | exact hbQ.trans (hbP0.mono hbQ.size)
             obtain ⟨⟨p0, p1, p2⟩, ⟨p3, p4, p5⟩, pz, _, _⟩ := Hk.out wP hbP)
          | (go_at_call_of 7 (Value.slice D d.length dap); refine (toFn x' y' (.slice D d.length dap) d _ (Hk.out _ (by first | exact Hb2.out.drew | exact hbP)).2.2.2.2 hd').mono ?_; rintro e wQ ⟨vQ, rfl, hQ, hbQ0⟩
             have hbQ : Below w1.heap.size w1 wQ := by first | exact Hb2.out.drew.trans (hbQ0.mono Hb2.out.size) | exact hbP.trans (hbQ0.mono hbP.size)
             obtain ⟨⟨r0, r1, r2⟩, ⟨r3, r4, r5⟩, rz, _, _⟩ := Hk.out wQ hbQ)
          | (go_at_call 6; refine (specSameF x y x' y' vP vQ c d _ (by first | exact hP | exact hP.below hbQ0) (by first | exact hQ | exact hQ.below hbP0)).mono ?_; rintro e wT ⟨rfl, hbT0⟩
             have hbT : Below w1.heap.size w1 wT := by first | exact hbQ.trans (hbT0.mono hbQ.size) | exact hbP.trans (hbT0.mono hbP.size)))
        all_goals
          go_wp2_with fail
          go_meet
          exact ⟨rfl, hbT⟩
      case rest =>
        obtain ⟨rfl, hwc⟩ := hcut
        have Hc : Hid (Below w1.heap.size w1 wc) := hwc
        clear c0 c1 c2 d0 d1 d2 hz hwc
        obtain ⟨⟨c0, c1, c2⟩, ⟨d0, d1, d2⟩, hz, _, _⟩ := Hk.out wc Hc.out
        go_wp2_with fail
        refine (toFn x y _ c _ (Hk.out _ Hc.out).2.2.2.1 hc).mono ?_
        rintro e w4 ⟨vX, rfl, hX, hb4⟩
        obtain ⟨AX, capX, rfl⟩ := hX.form
        have Hb4 : Hid (Below w1.heap.size w1 w4) := Hc.out.trans (hb4.mono Hc.out.size)
        have HX : Hid (InsRow 0 w4 (.slice AX c.length capX) c) := hX.lower (Nat.zero_le _)
        have Hb4a : Hid (Below w1.heap.size w1 (w4.alloc (.cells #[.int .i64 x, .int .i64 y, .slice AX c.length capX] 29))) := Hb4.out.alloc Hb4.out.size _
        clear c0 c1 c2 d0 d1 d2 hz hX hb4
        obtain ⟨⟨c0, c1, c2⟩, ⟨d0, d1, d2⟩, hz, _, _⟩ := Hk.out w4 Hb4.out
        go_wp2_with fail
        refine (toFn x' y' _ d _ (Hk.out _ Hb4a.out).2.2.2.2 hd').mono ?_
        rintro e w6 ⟨vY, rfl, hY, hb6⟩
        obtain ⟨AY, capY, rfl⟩ := hY.form
        have Hb6 : Hid (Below w1.heap.size w1 w6) := Hb4a.out.trans (hb6.mono Hb4a.out.size)
        have HX6 : Hid (InsRow 0 w6 (.slice AX c.length capX) c) := (HX.out.below ((Below.refl _ _).alloc (Nat.le_refl _) _)).below hb6
        have HY6 : Hid (InsRow 0 w6 (.slice AY d.length capY) d) := hY.lower (Nat.zero_le _)
        have b0 := (box_new w4 #[.int .i64 x, .int .i64 y, .slice AX c.length capX] 29).below hb6
        have B0 : Hid (Box _ _ _) := b0
        have e0 := b0.at0
        have e1 := b0.at1
        have e2 := b0.at2
        have ez := b0.1
        have a6 : Below w6.heap.size w6 (w6.alloc (.cells #[.int .i64 x', .int .i64 y', .slice AY d.length capY] 29)) := (Below.refl _ _).alloc (Nat.le_refl _) _
        have Hk2 : Hid (∀ w', Below (w6.alloc (.cells #[.int .i64 x', .int .i64 y', .slice AY d.length capY] 29)).heap.size (w6.alloc (.cells #[.int .i64 x', .int .i64 y', .slice AY d.length capY] 29)) w' →
            (w'.cell? ⟨w4.heap.size, 0, none⟩ = some (.int .i64 x) ∧ w'.cell? ⟨w4.heap.size, 1, none⟩ = some (.int .i64 y) ∧ w'.cell? ⟨w4.heap.size, 2, none⟩ = some (.slice AX c.length capX)) ∧
            (w'.cell? ⟨w6.heap.size, 0, none⟩ = some (.int .i64 x') ∧ w'.cell? ⟨w6.heap.size, 1, none⟩ = some (.int .i64 y') ∧ w'.cell? ⟨w6.heap.size, 2, none⟩ = some (.slice AY d.length capY)) ∧
            w4.heap.size < w'.heap.size ∧ w6.heap.size < w'.heap.size ∧ InsRow 0 w' (.slice AX c.length capX) c ∧ InsRow 0 w' (.slice AY d.length capY) d ∧ Below w1.heap.size w1 w') := by
          intro w' h
          have g0 := (B0.out.below a6).below h
          have g1 := (box_new w6 #[.int .i64 x', .int .i64 y', .slice AY d.length capY] 29).below h
          exact ⟨⟨g0.at0, g0.at1, g0.at2⟩, ⟨g1.at0, g1.at1, g1.at2⟩, g0.1, g1.1, (HX6.out.below a6).below h, (HY6.out.below a6).below h, (Hb6.out.alloc Hb6.out.size _).trans (h.mono (by have := Hb6.out.size; simp; omega))⟩
        clear c0 c1 c2 d0 d1 d2 hz hY hb6 b0 a6 B0
        go_wp2_with fail
        refine (implSameF x y x' y' _ _ c d _ (Hk2.out _ (Below.refl _ _)).2.2.2.2.1 (Hk2.out _ (Below.refl _ _)).2.2.2.2.2.1).mono ?_
        rintro e w7 ⟨rfl, hb7⟩
        have Hb7 : Hid (Below (w6.alloc (.cells #[.int .i64 x', .int .i64 y', .slice AY d.length capY] 29)).heap.size (w6.alloc (.cells #[.int .i64 x', .int .i64 y', .slice AY d.length capY] 29)) w7) := hb7
        clear e0 e1 e2 ez hb7 HX6 HY6 HX Hb4a
        obtain ⟨⟨e0, e1, e2⟩, ⟨f0, f1, f2⟩, ez, fz, hX7, hY7, h17⟩ := Hk2.out w7 Hb7.out
        obtain ⟨⟨c0, c1, c2⟩, ⟨d0, d1, d2⟩, hz, _, _⟩ := Hk.out w7 h17
        have HX7 : Hid (InsRow 0 w7 (.slice AX c.length capX) c) := hX7
        have HY7 : Hid (InsRow 0 w7 (.slice AY d.length capY) d) := hY7
        have H17 : Hid (Below w1.heap.size w1 w7) := h17
        clear hX7 hY7 h17
        go_upto_region 14 with fail
        go_cut [39] (fun z wc => z = .bool false ∧ Below (w6.alloc (.cells #[.int .i64 x', .int .i64 y', .slice AY d.length capY] 29)).heap.size (w6.alloc (.cells #[.int .i64 x', .int .i64 y', .slice AY d.length capY] 29)) wc)
        case first =>
          go_region_with (first
            | (go_at_call 7; refine (toFn x y _ c _ (Hk.out _ H17.out.drew).2.2.2.1 hc).mono ?_; rintro e wP ⟨vP, rfl, hP, hbP⟩
               have hbP' := Hb7.out.drew.trans (hbP.mono Hb7.out.size)
               obtain ⟨⟨k0, k1, k2⟩, _, kz, _, _, _, _⟩ := Hk2.out wP hbP')
            | (go_at_call 9; refine (eqFn x y _ _ c _ (HX7.out.below ((Below.refl _ _).drew.trans hbP)) hP).mono ?_; rintro e wQ ⟨rfl, hbQ⟩
               have hbQ' := hbP'.trans (hbQ.mono hbP'.size)))
          all_goals
            go_wp2_with fail
            go_meet
            exact ⟨rfl, hbQ'⟩
        case rest =>
          obtain ⟨rfl, hwc⟩ := hcut
          have Hb8 : Hid (Below (w6.alloc (.cells #[.int .i64 x', .int .i64 y', .slice AY d.length capY] 29)).heap.size (w6.alloc (.cells #[.int .i64 x', .int .i64 y', .slice AY d.length capY] 29)) wc) := hwc
          clear e0 e1 e2 f0 f1 f2 ez fz c0 c1 c2 d0 d1 d2 hz hwc
          obtain ⟨_, ⟨f0, f1, f2⟩, _, fz, _, hY8, h18⟩ := Hk2.out wc Hb8.out
          obtain ⟨_, ⟨d0, d1, d2⟩, hz, _, _⟩ := Hk.out wc h18
          have HY8 : Hid (InsRow 0 wc (.slice AY d.length capY) d) := hY8
          have H18 : Hid (Below w1.heap.size w1 wc) := h18
          clear hY8 h18
          go_upto_region 16 with fail
          go_cut [44] (fun z we => z = .bool false ∧ Below w.heap.size w we)
          case first =>
            go_region_with (first
              | (go_at_call 7; refine (toFn x' y' _ d _ (Hk.out _ H18.out.drew).2.2.2.2 hd').mono ?_; rintro e wP ⟨vP, rfl, hP, hbP⟩
                 have hbP' := Hb8.out.drew.trans (hbP.mono Hb8.out.size)
                 obtain ⟨_, ⟨k0, k1, k2⟩, _, kz, _, _, _⟩ := Hk2.out wP hbP')
              | (go_at_call 9; refine (eqFn x' y' _ _ d _ (HY8.out.below ((Below.refl _ _).drew.trans hbP)) hP).mono ?_; rintro e wQ ⟨rfl, hbQ⟩
                 have hbQ' : Below w.heap.size w wQ := (Hb1.out.trans (H18.out.mono Hb1.out.size)).drew.trans ((hbP.trans (hbQ.mono hbP.size)).mono (Nat.le_trans Hb1.out.size H18.out.size))))
            all_goals
              go_wp2_with fail
              go_meet
              exact ⟨rfl, hbQ'⟩
          case rest =>
            obtain ⟨rfl, hwe⟩ := hcut
            have He : Hid (Below w.heap.size w wc) := hwe
            clear hwe
            go_wp2_with fail
            go_ret
            exact ⟨rfl, He.out⟩
    · rw [show less (1048576 - (c.length : Int)) d.length = -1 by unfold less; rw [if_neg (by omega)]]
      go_wp2_with fail
      go_ret
      exact ⟨rfl, Hb1.out.trans (Hb2.out.mono Hb1.out.size)⟩
  · rw [show less 1048576 c.length = -1 by unfold less; rw [if_neg (by omega)]]
    go_wp2_with fail
    go_ret
    exact ⟨rfl, Hb1.out⟩
end Go.Proofs.Ytchlheionnfknaa
