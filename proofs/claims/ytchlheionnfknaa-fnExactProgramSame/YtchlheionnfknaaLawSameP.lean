/- laws.FnExactProgramSame. -/
import Derived.Test.YtchlheionnfknaaSameP
import Derived.Test.YtchlheionnfknaaPrgSz
import Derived.Test.YtchlheionnfknaaPrgTo
import Derived.Test.YtchlheionnfknaaArgs
namespace Go.Proofs.Ytchlheionnfknaa
open Go.RowKit

set_option maxRecDepth 100000 in
set_option maxHeartbeats 3200000 in
theorem lawExactProgramSame (v0 v1 : Value) (w : World) (i0 : IsProgram w v0) (i1 : IsProgram w v1) :
    Calls Try.prog 4 #[v0, v1] w fun e w' => e = .returned (.bool true) ∧ Below w.heap.size w w' := by
  obtain ⟨u, c, rfl, hr, _⟩ := i0
  obtain ⟨v, d, rfl, ht, _⟩ := i1
  have Hr : Hid (FnRow 0 w u c) := hr
  have Hs : Hid (FnRow 0 w v d) := ht
  obtain ⟨A, cap, rfl⟩ := hr.form
  obtain ⟨D, dap, rfl⟩ := ht.form
  clear hr ht
  obtain ⟨x0, x1, x2⟩ := boxes_new w #[.slice A c.length cap] #[.slice D d.length dap] 34 34
  have X0 : Hid (Box _ _ _) := x0
  have X1 : Hid (Box _ _ _) := x1
  have X2 : Hid (Below _ _ _) := x2
  clear x0 x1 x2
  go_enter Try.func4, Try.ntmps4
  go_wp2_with fail
  refine (szPrg _ c 1048576 _ (Hr.out.below X2.out) (by omega) (by omega)).mono ?_
  rintro e w1 ⟨rfl, hb1⟩
  have Hb1 : Hid (Below w.heap.size w w1) := X2.out.trans (hb1.mono X2.out.size)
  have Hk : Hid (∀ w', Below w1.heap.size w1 w' → w'.cell? ⟨w.heap.size, 0, none⟩ = some (.slice A c.length cap) ∧ w'.cell? ⟨w.heap.size + 1, 0, none⟩ = some (.slice D d.length dap) ∧
      w.heap.size + 1 < w'.heap.size ∧ FnRow 0 w' (.slice A c.length cap) c ∧ FnRow 0 w' (.slice D d.length dap) d) := by
    intro w' h
    have b0 := (X0.out.below hb1).below h
    have b1 := (X1.out.below hb1).below h
    exact ⟨b0.at0, b1.at0, b1.1, (Hr.out.below Hb1.out).below h, (Hs.out.below Hb1.out).below h⟩
  clear hb1 X0 X1 X2 Hr Hs
  obtain ⟨c0, d0, hz, _, _⟩ := Hk.out w1 (Below.refl _ _)
  by_cases hc : bulk c ≤ 1048576
  · rw [show less 1048576 (bulk c) = 1048576 - bulk c by unfold less; rw [if_pos (by omega)]]
    go_wp2_with fail
    refine (szPrg _ d _ _ (Hk.out w1 (Below.refl _ _)).2.2.2.2 (by omega) (by omega)).mono ?_
    rintro e w2 ⟨rfl, hb2⟩
    have Hb2 : Hid (Below w1.heap.size w1 w2) := hb2
    clear hb2 c0 d0 hz
    by_cases hd : (bulk d : Int) ≤ 1048576 - bulk c
    · rw [show less (1048576 - (bulk c : Int)) (bulk d) = 1048576 - bulk c - bulk d by unfold less; rw [if_pos (by omega)]]
      obtain ⟨c0, d0, hz, _, _⟩ := Hk.out w2 Hb2.out
      have hd' : bulk d ≤ 1048576 := by omega
      go_upto_region 8 with fail
      go_cut [6] (fun z wc => z = .bool (sameP c d) ∧ Below w1.heap.size w1 wc)
      case first =>
        go_region_with (first
          | (go_at_call_of 12 (Value.slice A c.length cap); refine (toPrg (.slice A c.length cap) c _ (Hk.out _ (by first | exact Hb2.out.drew | exact hbQ)).2.2.2.1 hc).mono ?_; rintro e wP ⟨vP, rfl, hP, hbP0⟩
             have hbP : Below w1.heap.size w1 wP := by first | exact Hb2.out.drew.trans (hbP0.mono Hb2.out.size) | exact hbQ.trans (hbP0.mono hbQ.size)
             obtain ⟨p0, p1, pz, _, _⟩ := Hk.out wP hbP)
          | (go_at_call_of 12 (Value.slice D d.length dap); refine (toPrg (.slice D d.length dap) d _ (Hk.out _ (by first | exact Hb2.out.drew | exact hbP)).2.2.2.2 hd').mono ?_; rintro e wQ ⟨vQ, rfl, hQ, hbQ0⟩
             have hbQ : Below w1.heap.size w1 wQ := by first | exact Hb2.out.drew.trans (hbQ0.mono Hb2.out.size) | exact hbP.trans (hbQ0.mono hbP.size)
             obtain ⟨r0, r1, rz, _, _⟩ := Hk.out wQ hbQ)
          | (go_at_call 11; refine (specSameP vP vQ c d _ (by first | exact hP | exact hP.below hbQ0) (by first | exact hQ | exact hQ.below hbP0)).mono ?_; rintro e wT ⟨rfl, hbT0⟩
             have hbT : Below w1.heap.size w1 wT := by first | exact hbQ.trans (hbT0.mono hbQ.size) | exact hbP.trans (hbT0.mono hbP.size)))
        all_goals
          go_wp2_with fail
          go_meet
          exact ⟨rfl, hbT⟩
      case rest =>
        obtain ⟨rfl, hwc⟩ := hcut
        have Hc : Hid (Below w1.heap.size w1 wc) := hwc
        clear c0 d0 hz hwc
        obtain ⟨c0, d0, hz, _, _⟩ := Hk.out wc Hc.out
        go_wp2_with fail
        refine (toPrg _ c _ (Hk.out _ Hc.out).2.2.2.1 hc).mono ?_
        rintro e w4 ⟨vX, rfl, hX, hb4⟩
        obtain ⟨AX, capX, rfl⟩ := hX.form
        have Hb4 : Hid (Below w1.heap.size w1 w4) := Hc.out.trans (hb4.mono Hc.out.size)
        have HX : Hid (FnRow 0 w4 (.slice AX c.length capX) c) := hX.lower (Nat.zero_le _)
        have Hb4a : Hid (Below w1.heap.size w1 (w4.alloc (.cells #[.slice AX c.length capX] 39))) := Hb4.out.alloc Hb4.out.size _
        clear c0 d0 hz hX hb4
        obtain ⟨c0, d0, hz, _, _⟩ := Hk.out w4 Hb4.out
        go_wp2_with fail
        refine (toPrg _ d _ (Hk.out _ Hb4a.out).2.2.2.2 hd').mono ?_
        rintro e w6 ⟨vY, rfl, hY, hb6⟩
        obtain ⟨AY, capY, rfl⟩ := hY.form
        have Hb6 : Hid (Below w1.heap.size w1 w6) := Hb4a.out.trans (hb6.mono Hb4a.out.size)
        have HX6 : Hid (FnRow 0 w6 (.slice AX c.length capX) c) := (HX.out.below ((Below.refl _ _).alloc (Nat.le_refl _) _)).below hb6
        have HY6 : Hid (FnRow 0 w6 (.slice AY d.length capY) d) := hY.lower (Nat.zero_le _)
        have b0 := (box_new w4 #[.slice AX c.length capX] 39).below hb6
        have B0 : Hid (Box _ _ _) := b0
        have e0 := b0.at0
        have ez := b0.1
        have a6 : Below w6.heap.size w6 (w6.alloc (.cells #[.slice AY d.length capY] 39)) := (Below.refl _ _).alloc (Nat.le_refl _) _
        have Hk2 : Hid (∀ w', Below (w6.alloc (.cells #[.slice AY d.length capY] 39)).heap.size (w6.alloc (.cells #[.slice AY d.length capY] 39)) w' → w'.cell? ⟨w4.heap.size, 0, none⟩ = some (.slice AX c.length capX) ∧ w'.cell? ⟨w6.heap.size, 0, none⟩ = some (.slice AY d.length capY) ∧
            w4.heap.size < w'.heap.size ∧ w6.heap.size < w'.heap.size ∧ FnRow 0 w' (.slice AX c.length capX) c ∧ FnRow 0 w' (.slice AY d.length capY) d ∧ Below w1.heap.size w1 w') := by
          intro w' h
          have g0 := (B0.out.below a6).below h
          have g1 := (box_new w6 #[.slice AY d.length capY] 39).below h
          exact ⟨g0.at0, g1.at0, g0.1, g1.1, (HX6.out.below a6).below h, (HY6.out.below a6).below h, (Hb6.out.alloc Hb6.out.size _).trans (h.mono (by have := Hb6.out.size; simp; omega))⟩
        clear c0 d0 hz hY hb6 b0 a6 B0
        go_wp2_with fail
        refine (implSameP _ _ c d _ (Hk2.out _ (Below.refl _ _)).2.2.2.2.1 (Hk2.out _ (Below.refl _ _)).2.2.2.2.2.1).mono ?_
        rintro e w7 ⟨rfl, hb7⟩
        have Hb7 : Hid (Below (w6.alloc (.cells #[.slice AY d.length capY] 39)).heap.size (w6.alloc (.cells #[.slice AY d.length capY] 39)) w7) := hb7
        clear e0 ez hb7 HX6 HY6 HX Hb4a
        obtain ⟨e0, f0, ez, fz, hX7, hY7, h17⟩ := Hk2.out w7 Hb7.out
        obtain ⟨c0, d0, hz, _, _⟩ := Hk.out w7 h17
        have HX7 : Hid (FnRow 0 w7 (.slice AX c.length capX) c) := hX7
        have HY7 : Hid (FnRow 0 w7 (.slice AY d.length capY) d) := hY7
        have H17 : Hid (Below w1.heap.size w1 w7) := h17
        clear hX7 hY7 h17
        go_upto_region 14 with fail
        go_cut [39] (fun z wc => z = .bool false ∧ Below (w6.alloc (.cells #[.slice AY d.length capY] 39)).heap.size (w6.alloc (.cells #[.slice AY d.length capY] 39)) wc)
        case first =>
          go_region_with (first
            | (go_at_call 12; refine (toPrg _ c _ (Hk.out _ H17.out.drew).2.2.2.1 hc).mono ?_; rintro e wP ⟨vP, rfl, hP, hbP⟩
               have hbP' := Hb7.out.drew.trans (hbP.mono Hb7.out.size)
               obtain ⟨k0, _, kz, _, _, _, _⟩ := Hk2.out wP hbP')
            | (go_at_call 14; refine (eqPrg _ _ c _ (HX7.out.below ((Below.refl _ _).drew.trans hbP)) hP).mono ?_; rintro e wQ ⟨rfl, hbQ⟩
               have hbQ' := hbP'.trans (hbQ.mono hbP'.size)))
          all_goals
            go_wp2_with fail
            go_meet
            exact ⟨rfl, hbQ'⟩
        case rest =>
          obtain ⟨rfl, hwc⟩ := hcut
          have Hb8 : Hid (Below (w6.alloc (.cells #[.slice AY d.length capY] 39)).heap.size (w6.alloc (.cells #[.slice AY d.length capY] 39)) wc) := hwc
          clear e0 f0 ez fz c0 d0 hz hwc
          obtain ⟨_, f0, _, fz, _, hY8, h18⟩ := Hk2.out wc Hb8.out
          obtain ⟨_, d0, hz, _, _⟩ := Hk.out wc h18
          have HY8 : Hid (FnRow 0 wc (.slice AY d.length capY) d) := hY8
          have H18 : Hid (Below w1.heap.size w1 wc) := h18
          clear hY8 h18
          go_upto_region 16 with fail
          go_cut [44] (fun z we => z = .bool false ∧ Below w.heap.size w we)
          case first =>
            go_region_with (first
              | (go_at_call 12; refine (toPrg _ d _ (Hk.out _ H18.out.drew).2.2.2.2 hd').mono ?_; rintro e wP ⟨vP, rfl, hP, hbP⟩
                 have hbP' := Hb8.out.drew.trans (hbP.mono Hb8.out.size)
                 obtain ⟨_, k0, _, kz, _, _, _⟩ := Hk2.out wP hbP')
              | (go_at_call 14; refine (eqPrg _ _ d _ (HY8.out.below ((Below.refl _ _).drew.trans hbP)) hP).mono ?_; rintro e wQ ⟨rfl, hbQ⟩
                 have hbQ' : Below w.heap.size w wQ := (Hb1.out.trans (H18.out.mono Hb1.out.size)).drew.trans ((hbP.trans (hbQ.mono hbP.size)).mono (Nat.le_trans Hb1.out.size H18.out.size))))
            all_goals
              go_wp2_with fail
              go_meet
              exact ⟨rfl, hbQ'⟩
          case rest =>
            obtain ⟨rfl, hwe⟩ := hcut
            have He : Hid (Below w.heap.size w wc) := hwe
            clear hwe
            go_wp2_with fail
            go_ret
            exact ⟨rfl, He.out⟩
    · rw [show less (1048576 - (bulk c : Int)) (bulk d) = -1 by unfold less; rw [if_neg (by omega)]]
      go_wp2_with fail
      go_ret
      exact ⟨rfl, Hb1.out.trans (Hb2.out.mono Hb1.out.size)⟩
  · rw [show less 1048576 (bulk c) = -1 by unfold less; rw [if_neg (by omega)]]
    go_wp2_with fail
    go_ret
    exact ⟨rfl, Hb1.out⟩
end Go.Proofs.Ytchlheionnfknaa
