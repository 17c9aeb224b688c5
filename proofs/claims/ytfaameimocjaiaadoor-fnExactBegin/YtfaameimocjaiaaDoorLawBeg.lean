/- laws.FnExactBegin. -/
import Derived.Test.YtfaameimocjaiaaDoorBeginI
import Derived.Test.YtfaameimocjaiaaDoorBeginS
import Derived.Test.YtfaameimocjaiaaDoorStKeep
import Derived.Test.YtfaameimocjaiaaDoorPrgSz
import Derived.Test.YtfaameimocjaiaaDoorPrgEq
import Derived.Test.YtfaameimocjaiaaDoorMarksP
import Derived.Test.YtfaameimocjaiaaDoorArgsS
namespace Go.Proofs.YtfaameimocjaiaaDoor
open Go.RowKit

theorem begIs_small {p : List FnM} {f fuel : Int} {l : List Int} {s : StM} (h : BegIs p f l fuel s) : Small s ∧ cntS s ≤ 100 ∧ s.frames.length ≤ 1048576 ∧ s.heap.length ≤ 1048576 := by
  rcases h with ⟨h1, rfl⟩ | ⟨_, rfl⟩
  · have h2 := inL_iff.1 h1.2.1
    obtain ⟨k, rfl⟩ := Int.eq_ofNat_of_zero_le h2.1
    obtain ⟨lo, _, _, h3, h4, h5⟩ := begOk_form h1.1 (k := k) (by omega) h1.2.2.1
    rw [h3]
    have hl : (newLocals lo l).length = lo := by simp [newLocals]; omega
    refine ⟨⟨fun i hi => ?_, fun i hi => absurd hi (Nat.not_lt_zero _), by simp [begS]⟩, ?_, by simp [begS], by simp [begS]⟩
    · have hi0 : i = 0 := by simpa [begS] using hi
      subst hi0
      show (newLocals lo l).length ≤ _ ∧ ([] : List Int).length ≤ _
      rw [hl]
      simp
      omega
    · simp [cntS, cntF, cntH, begS, FrM.bulk, hl]
      omega
  · exact ⟨⟨fun i hi => absurd hi (Nat.not_lt_zero _), fun i hi => absurd hi (Nat.not_lt_zero _), by simp [zeroS]⟩, by simp [cntS, cntF, cntH, zeroS], by simp [zeroS], by simp [zeroS]⟩

set_option maxRecDepth 100000 in
set_option maxHeartbeats 12800000 in
theorem lawExactBegin (v0 v1 v2 v3 : Value) (w : World) (i0 : IsProgram w v0) (i1 : IsI64 w v1) (i2 : IsInts w v2) (i3 : IsI64 w v3) (tab : Tab w) :
    Calls Tryd.prog 4 #[v0, v1, v2, v3] w fun e w' => e = .returned (.bool true) ∧ Below w.heap.size w w' := by
  obtain ⟨v, p, rfl, hr, hok⟩ := i0
  obtain ⟨f, rfl, -⟩ := i1
  obtain ⟨l, hv, -⟩ := i2
  obtain ⟨fuel, rfl, -⟩ := i3
  have Hr : Hid (FnRow 0 w v p) := hr
  have Hv : Hid (IRow 0 w v2 l) := hv
  have Ht : Hid (Tab w) := tab
  have Hok : Hid (∀ g ∈ p, g.ok) := hok
  have hll := hv.len
  obtain ⟨A, cap, rfl⟩ := hr.form
  obtain ⟨D, dap, rfl⟩ := hv.form
  clear hr hv tab hok
  have X0 : Hid (Box _ w.heap.size #[.slice A p.length cap]) := box_new w #[.slice A p.length cap] 24
  have X2 : Hid (Below w.heap.size w (w.alloc (.cells #[.slice A p.length cap] 24))) := (Below.refl _ _).alloc (Nat.le_refl _) _
  by_cases hl : l.length ≤ 1048576
  case neg =>
    have hl' : (1048576 : Int) < l.length := by omega
    go_enter Tryd.func4, Tryd.ntmps4
    go_wp2_with fail
    go_ret
    exact ⟨rfl, X2.out⟩
  have hl' : decide ((1048576 : Int) < l.length) = false := by simp; omega
  go_enter Tryd.func4, Tryd.ntmps4
  go_wp2_with fail
  refine (szPrg _ p 1048576 _ (Hr.out.below X2.out) (by omega) (by omega)).mono ?_
  rintro e w1 ⟨rfl, hb1⟩
  have Hb1 : Hid (Below w.heap.size w w1) := X2.out.trans (hb1.mono X2.out.size)
  have Hk : Hid (∀ W, Below w1.heap.size w1 W → W.cell? ⟨w.heap.size, 0, none⟩ = some (.slice A p.length cap) ∧ w.heap.size < W.heap.size ∧ FnRow 0 W (.slice A p.length cap) p ∧ IRow 0 W (.slice D l.length dap) l ∧ Tab W) := by
    intro W h
    have b0 := (X0.out.below hb1).below h
    exact ⟨b0.at0, b0.1, (Hr.out.below Hb1.out).below h, (Hv.out.below Hb1.out).below h, (Ht.out.below Hb1.out).below h⟩
  clear hb1 X0 X2 Hr Hv Ht hl'
  by_cases hbulk : bulk p ≤ 1048576
  case neg =>
    rw [show less 1048576 (bulk p) = -1 by unfold less; rw [if_neg (by omega)]]
    go_wp2_with fail
    go_ret
    exact ⟨rfl, Hb1.out⟩
  rw [show less 1048576 (bulk p) = 1048576 - bulk p by unfold less; rw [if_pos (by omega)]]
  obtain ⟨c0, c1, -⟩ := Hk.out w1 (Below.refl _ _)
  go_wp2_with fail
  refine (toPrg _ p _ (Hk.out _ (Below.refl _ _)).2.2.1 hbulk).mono ?_
  rintro e w2 ⟨vS, rfl, hS, hb2⟩
  have Hb2 : Hid (Below w1.heap.size w1 w2) := hb2
  have HS : Hid (FnRow 0 w2 vS p) := hS.lower (Nat.zero_le _)
  obtain ⟨AS, capS, rfl⟩ := hS.form
  clear hS hb2 c0 c1
  go_wp2_with fail
  refine (toInts _ l _ (Hk.out _ Hb2.out).2.2.2.1 hl).mono ?_
  rintro e w3 ⟨vI, rfl, hI, hb3⟩
  have Hb3 : Hid (Below w1.heap.size w1 w3) := Hb2.out.trans (hb3.mono Hb2.out.size)
  have HS3 : Hid (FnRow 0 w3 (.slice AS p.length capS) p) := HS.out.below hb3
  have HI : Hid (IRow 0 w3 vI l) := hI.lower (Nat.zero_le _)
  obtain ⟨AI, capI, rfl⟩ := hI.form
  have hB := specBegin (.slice AS p.length capS) (.slice AI l.length capI) p f fuel l w3 HS3.out Hok.out HI.out
  have HBs : Hid (Calls Tryd.prog 11 #[.agg #[.slice AS p.length capS], .int .i64 f, .slice AI l.length capI, .int .i64 fuel] w3 fun e w' => BegSTold p f l fuel w3 w' e) := hB
  clear hI hb3 HS Hb2 hB
  go_wp2_with fail
  refine Calls.mono (R := fun e w' => BegSTold p f l fuel w3 w' e) HBs.out ?_
  rintro e w4 ⟨s, A1, a1, A2, a2, A3, a3, rfl, hbeg, hrow, hb4⟩
  have Hbeg : Hid (BegIs p f l fuel s) := hbeg
  have Hb4 : Hid (Below w1.heap.size w1 w4) := Hb3.out.trans (hb4.mono Hb3.out.size)
  obtain ⟨w5, hw5⟩ : ∃ w5, w5 = w4.alloc (.cells #[.slice A1 s.frames.length a1, .slice A2 s.heap.length a2, .slice A3 s.out.length a3, .int .i64 s.fuel, .bool s.done, .int .i64 s.value, .int .i64 s.trap] 37) := ⟨_, rfl⟩
  have hal : Below w4.heap.size w4 w5 := by rw [hw5]; exact (Below.refl _ _).alloc (Nat.le_refl _) _
  have Hb5 : Hid (Below w1.heap.size w1 w5) := Hb4.out.trans (hal.mono Hb4.out.size)
  have BW : Hid (StBox w5 w4.heap.size (.slice A1 s.frames.length a1) (.slice A2 s.heap.length a2) (.slice A3 s.out.length a3) s) := by rw [hw5]; exact stBox_new w4 _ _ _ s 37
  have RW : Hid (StRow 0 w5 (.slice A1 s.frames.length a1) (.slice A2 s.heap.length a2) (.slice A3 s.out.length a3) s) := hrow.below hal
  have H5 : Hid (∀ W, Below w5.heap.size w5 W → (W.cell? ⟨w.heap.size, 0, none⟩ = some (.slice A p.length cap) ∧ w.heap.size < W.heap.size) ∧ FnRow 0 W (.slice A p.length cap) p ∧ IRow 0 W (.slice D l.length dap) l ∧ Tab W ∧ StBox W w4.heap.size (.slice A1 s.frames.length a1) (.slice A2 s.heap.length a2) (.slice A3 s.out.length a3) s ∧ StRow 0 W (.slice A1 s.frames.length a1) (.slice A2 s.heap.length a2) (.slice A3 s.out.length a3) s) := by
    intro W h
    obtain ⟨g1, g2, g3, g4, g5⟩ := Hk.out W (Hb5.out.trans (h.mono Hb5.out.size))
    exact ⟨⟨g1, g2⟩, g3, g4, g5, BW.out.below h, RW.out.below h⟩
  have Hw5 : Hid (Below w.heap.size w w5) := Hb1.out.trans (Hb5.out.mono Hb1.out.size)
  clear hbeg hrow hb4 hal BW RW HBs HS3 HI Hb3 Hb4
  obtain ⟨⟨c0, c1⟩, -⟩ := H5.out w5 (Below.refl _ _)
  rw [hw5] at c0 c1
  go_wp2_with fail
  rw [← hw5]
  clear c0 c1 hw5
  refine (toPrgT _ p _ (H5.out _ (Below.refl _ _)).2.1 hbulk).mono ?_
  rintro e w6 ⟨vX, rfl, hX, hb6, hth, Bf, hBf, hMk⟩
  obtain ⟨AX, capX, rfl⟩ := hX.form
  have Hb6 : Hid (Below w5.heap.size w5 w6) := hb6
  obtain ⟨w7, hw7⟩ : ∃ w7, w7 = w6.alloc (.cells #[.slice AX p.length capX] 29) := ⟨_, rfl⟩
  have hal7 : Below w6.heap.size w6 w7 := by rw [hw7]; exact (Below.refl _ _).alloc (Nat.le_refl _) _
  have Hb7 : Hid (Below w5.heap.size w5 w7) := hb6.trans (hal7.mono hb6.size)
  have BX : Hid (Box w7 w6.heap.size #[.slice AX p.length capX]) := by rw [hw7]; exact box_new w6 _ 29
  have HX : Hid (FnRow 0 w7 (.slice AX p.length capX) p) := (hX.lower (Nat.zero_le _)).below hal7
  have HMk : Hid (MarkRow Bf w6.heap.size w7 (.slice AX p.length capX) p) := hMk.below hal7
  have Hfr : Hid (∀ b j, Bf ≤ b → b < w6.heap.size → w7.frozen? ⟨b, j, none⟩ = false) := fun b j h1 h2 => (hth.up hBf).below hal7 b j h1 h2
  have H67 : Hid (w7.heap.size = w6.heap.size + 1) := by show w7.heap.size = _; rw [hw7]; simp
  clear hX hb6 hth hMk hal7
  go_wp2_with fail
  rw [← hw7]
  clear hw7
  refine (toIntsO _ l _ (H5.out _ Hb7.out).2.2.1 hl).mono ?_
  rintro e w8 ⟨rfl, hI8, hR8, hb8, h78⟩
  have Hb8 : Hid (Below w5.heap.size w5 w8) := Hb7.out.trans (hb8.mono Hb7.out.size)
  have HI8 : Hid (IRow w7.heap.size w8 (.slice (some ⟨w7.heap.size, 0, none⟩) l.length l.length) l ∧ Room (oneOwn w7.heap.size .out) w7.heap.size w8 (.slice (some ⟨w7.heap.size, 0, none⟩) l.length l.length) 1 .out) := ⟨hI8, hR8⟩
  have HX8 : Hid (Box w8 w6.heap.size #[.slice AX p.length capX] ∧ FnRow 0 w8 (.slice AX p.length capX) p ∧ MarkRow Bf w6.heap.size w8 (.slice AX p.length capX) p ∧ (∀ b j, Bf ≤ b → b < w6.heap.size → w8.frozen? ⟨b, j, none⟩ = false)) := ⟨BX.out.below hb8, HX.out.below hb8, HMk.out.below hb8, fun b j h1 h2 => by rw [hb8.frozen (by have := H67.out; show b < w7.heap.size; omega)]; exact Hfr.out b j h1 h2⟩
  clear hI8 hR8 hb8 BX HX HMk Hfr
  have d0 := HX8.out.1.at0
  have d1 := HX8.out.1.1
  have hB := implBegin (.slice AX p.length capX) (.slice (some ⟨w7.heap.size, 0, none⟩) l.length l.length) p f fuel l w8 (H5.out _ Hb8.out).2.2.2.1 HX8.out.2.1 HI8.out.1
  have HBi : Hid (Calls Tryd.prog 13 #[.agg #[.slice AX p.length capX], .int .i64 f, .slice (some ⟨w7.heap.size, 0, none⟩) l.length l.length, .int .i64 fuel] w8 fun e w' => BegTold p f l fuel w8 w' e) := hB
  clear hB
  go_wp2_with fail
  refine Calls.mono (R := fun e w' => BegTold p f l fuel w8 w' e) HBi.out ?_
  rintro e w9 ⟨s', G1, g1, G2, g2, G3, g3, own, X, Y, Z, rfl, hbeg, hown, hb9⟩
  obtain rfl : s' = s := hbeg.unique Hbeg.out
  obtain ⟨hsmall, hcnt, hlf, hlh⟩ := begIs_small Hbeg.out
  have Hsmall : Hid (Small s') := hsmall
  have Hb9 : Hid (Below w5.heap.size w5 w9) := Hb8.out.trans (hb9.mono Hb8.out.size)
  have h89 : w8.heap.size ≤ w9.heap.size := hb9.size
  obtain ⟨w10, hw10⟩ : ∃ w10, w10 = w9.alloc (.cells #[.slice G1 s'.frames.length g1, .slice G2 s'.heap.length g2, .slice G3 s'.out.length g3, .int .i64 s'.fuel, .bool s'.done, .int .i64 s'.value, .int .i64 s'.trap] 37) := ⟨_, rfl⟩
  have hal : Below w9.heap.size w9 w10 := by rw [hw10]; exact (Below.refl _ _).alloc (Nat.le_refl _) _
  have Hb10 : Hid (Below w5.heap.size w5 w10) := Hb9.out.trans (hal.mono Hb9.out.size)
  have hb810 : Below w8.heap.size w8 w10 := hb9.trans (hal.mono hb9.size)
  have BG : Hid (StBox w10 w9.heap.size (.slice G1 s'.frames.length g1) (.slice G2 s'.heap.length g2) (.slice G3 s'.out.length g3) s') := by rw [hw10]; exact stBox_new w9 _ _ _ s' 37
  have OG : Hid (OwnSt (cutOwn w9.heap.size own) w8.heap.size w10 (.slice G1 s'.frames.length g1) (.slice G2 s'.heap.length g2) (.slice G3 s'.out.length g3) s' X Y Z) := hown.cut.below hal
  have H910 : Hid (w10.heap.size = w9.heap.size + 1) := by show w10.heap.size = _; rw [hw10]; simp
  have HJ : Hid (∀ W, Below w10.heap.size w10 W → StBox W w9.heap.size (.slice G1 s'.frames.length g1) (.slice G2 s'.heap.length g2) (.slice G3 s'.out.length g3) s' ∧ OwnSt (cutOwn w9.heap.size own) w8.heap.size W (.slice G1 s'.frames.length g1) (.slice G2 s'.heap.length g2) (.slice G3 s'.out.length g3) s' X Y Z ∧ (Box W w6.heap.size #[.slice AX p.length capX] ∧ FnRow 0 W (.slice AX p.length capX) p ∧ MarkRow Bf w6.heap.size W (.slice AX p.length capX) p ∧ (∀ b j, Bf ≤ b → b < w6.heap.size → W.frozen? ⟨b, j, none⟩ = false)) ∧ (IRow w7.heap.size W (.slice (some ⟨w7.heap.size, 0, none⟩) l.length l.length) l ∧ Room (oneOwn w7.heap.size .out) w7.heap.size W (.slice (some ⟨w7.heap.size, 0, none⟩) l.length l.length) 1 .out) ∧ Below w5.heap.size w5 W) := by
    intro W h
    have h8W := hb810.trans (h.mono hb810.size)
    exact ⟨BG.out.below h, OG.out.below h, ⟨HX8.out.1.below h8W, HX8.out.2.1.below h8W, HX8.out.2.2.1.below h8W, fun b j h1 h2 => by rw [h8W.frozen (by have := H67.out; show b < w8.heap.size; omega)]; exact HX8.out.2.2.2 b j h1 h2⟩, ⟨HI8.out.1.below h8W, HI8.out.2.below h8W⟩, Hb10.out.trans (h.mono Hb10.out.size)⟩
  clear hbeg hown hb9 hal hb810 hsmall d0 d1 HBi OG BG
  obtain ⟨z7, e0, e1, e2, e3, e4, e5, e6⟩ := (H5.out w9 Hb9.out).2.2.2.2.1.cells
  go_wp2_with fail
  rw [← hw10]
  clear hw10 e0 e1 e2 e3 e4 e5 e6 z7
  refine (eqState (.slice G1 s'.frames.length g1) (.slice G2 s'.heap.length g2) (.slice G3 s'.out.length g3) (.slice A1 s'.frames.length a1) (.slice A2 s'.heap.length a2) (.slice A3 s'.out.length a3) s' _ (HJ.out _ (Below.refl _ _)).2.1.stRow (H5.out _ Hb10.out).2.2.2.2.2).mono ?_
  rintro e w11 ⟨rfl, hb11⟩
  have Hb11 : Hid (Below w10.heap.size w10 w11) := hb11
  have H511 : Hid (Below w5.heap.size w5 w11) := Hb10.out.trans (hb11.mono Hb10.out.size)
  clear hb11
  obtain ⟨⟨c0, c1⟩, -⟩ := H5.out w11 H511.out
  have d0 := (HJ.out w11 Hb11.out).2.2.1.1.at0
  have d1 := (HJ.out w11 Hb11.out).2.2.1.1.1
  go_upto_region 13 with fail
  go_cut [50] (fun q wc => q = .bool false ∧ Below w10.heap.size w10 wc)
  case first =>
    go_region_with (first
      | (go_at_call 8; refine (toPrg _ p _ (H5.out _ H511.out.drew).2.1 hbulk).mono ?_; rintro e wP ⟨vP, rfl, hP, hbP⟩
         have hbP' := Hb11.out.drew.trans (hbP.mono Hb11.out.size)
         have k0 := (HJ.out wP hbP').2.2.1.1.at0
         have k1 := (HJ.out wP hbP').2.2.1.1.1)
      | (go_at_call 10; refine (eqPrg _ _ p _ (HJ.out wP hbP').2.2.1.2.1 hP).mono ?_; rintro e wQ ⟨rfl, hbQ⟩
         have hbQ' := hbP'.trans (hbQ.mono hbP'.size)))
    all_goals
      go_wp2_with fail
      go_meet
      exact ⟨rfl, hbQ'⟩
  case rest =>
    obtain ⟨rfl, hwc⟩ := hcut
    have Hb12 : Hid (Below w10.heap.size w10 wc) := hwc
    have H512 : Hid (Below w5.heap.size w5 wc) := Hb10.out.trans (hwc.mono Hb10.out.size)
    clear c0 c1 d0 d1 hwc Hb11 H511
    go_wp2_with fail
    refine (toInts _ l _ (H5.out _ H512.out).2.2.1 hl).mono ?_
    rintro e w13 ⟨vJ, rfl, hJ, hb13⟩
    have Hb13 : Hid (Below w10.heap.size w10 w13) := Hb12.out.trans (hb13.mono Hb12.out.size)
    have HJ13 : Hid (IRow wc.heap.size w13 vJ l) := hJ
    obtain ⟨AJ, capJ, rfl⟩ := hJ.form
    clear hJ hb13
    go_wp2_with fail
    refine (eqInts _ _ l _ (HJ.out _ Hb13.out).2.2.2.1.1 HJ13.out).mono ?_
    rintro e w14 ⟨rfl, hb14⟩
    have hb14' := Hb13.out.trans (hb14.mono Hb13.out.size)
    obtain ⟨bg, og, hx14, hi14, h514⟩ := HJ.out w14 hb14'
    have BG14 : Hid (StBox w14 w9.heap.size (.slice G1 s'.frames.length g1) (.slice G2 s'.heap.length g2) (.slice G3 s'.out.length g3) s') := bg
    have OG14 : Hid (OwnSt (cutOwn w9.heap.size own) w8.heap.size w14 (.slice G1 s'.frames.length g1) (.slice G2 s'.heap.length g2) (.slice G3 s'.out.length g3) s' X Y Z) := og
    have HX14 : Hid (Box w14 w6.heap.size #[.slice AX p.length capX] ∧ FnRow 0 w14 (.slice AX p.length capX) p ∧ MarkRow Bf w6.heap.size w14 (.slice AX p.length capX) p ∧ (∀ b j, Bf ≤ b → b < w6.heap.size → w14.frozen? ⟨b, j, none⟩ = false)) := hx14
    have HI14 : Hid (IRow w7.heap.size w14 (.slice (some ⟨w7.heap.size, 0, none⟩) l.length l.length) l ∧ Room (oneOwn w7.heap.size .out) w7.heap.size w14 (.slice (some ⟨w7.heap.size, 0, none⟩) l.length l.length) 1 .out) := hi14
    have H514 : Hid (Below w5.heap.size w5 w14) := h514
    have h14 : w10.heap.size ≤ w14.heap.size := hb14'.size
    have d0 := hx14.1.at0
    have d1 := hx14.1.1
    clear hb14 hb14' bg og hx14 hi14 h514 Hb13 HJ13 Hb12 H512 HJ
    go_wp2_with fail
    refine (markPrg _ p 1 _ HX14.out.2.2.1 HX14.out.2.2.2 hbulk (by omega)).mono ?_
    rintro e w15 ⟨m, rfl, hm, hs15, ⟨ho15, ht15, hp15⟩, hblk⟩
    have H515 : Hid (Below w5.heap.size w5 w15) := ⟨ho15.trans H514.out.os, ht15.trans H514.out.tape, hp15.trans H514.out.output, Nat.le_trans H514.out.size hs15, fun b hb => (hblk b (by have := H514.out.size; omega) (.inl (by omega))).trans (H514.out.block b hb)⟩
    have hK : Kept w6.heap.size w14 w15 := Kept.of_blocks hs15 (fun b h1 h2 => hblk b h2 (.inr h1))
    have hK7 : Kept w7.heap.size w14 w15 := ⟨hK.1, fun b j h1 h2 => hK.2 b j (by have := H67.out; omega) h2⟩
    have hK8 : Kept w8.heap.size w14 w15 := ⟨hK.1, fun b j h1 h2 => hK.2 b j (by have := H67.out; omega) h2⟩
    have BG15 : Hid (StBox w15 w9.heap.size (.slice G1 s'.frames.length g1) (.slice G2 s'.heap.length g2) (.slice G3 s'.out.length g3) s') := BG14.out.kept hK8 h89
    have OG15 : Hid (OwnSt (cutOwn w9.heap.size own) w8.heap.size w15 (.slice G1 s'.frames.length g1) (.slice G2 s'.heap.length g2) (.slice G3 s'.out.length g3) s' X Y Z) := OG14.out.kept hK8
    have HI15 : Hid (IRow w7.heap.size w15 (.slice (some ⟨w7.heap.size, 0, none⟩) l.length l.length) l ∧ Room (oneOwn w7.heap.size .out) w7.heap.size w15 (.slice (some ⟨w7.heap.size, 0, none⟩) l.length l.length) 1 .out) := ⟨HI14.out.1.keptK hK7, HI14.out.2.kept hK7⟩
    have h15 : w10.heap.size ≤ w15.heap.size := Nat.le_trans h14 hs15
    clear hs15 ho15 ht15 hp15 hblk hK hK7 hK8 d0 d1 HX14 HI14 OG14 BG14
    go_wp2_with fail
    refine (markSpan _ l m .out _ HI15.out.1 HI15.out.2 hl (by omega)).mono ?_
    rintro e w16 ⟨rfl, hw16, -⟩
    have hb16 := hw16.below
    have H516 : Hid (Below w5.heap.size w5 w16) := H515.out.trans (hb16.mono (by have := Hb7.out.size; omega))
    have hK8 : Kept w8.heap.size w15 w16 := by
      refine ⟨hb16.size, fun b j h1 h2 => ⟨?_, hw16.thaw b j⟩⟩
      exact hw16.cell b j (by unfold oneOwn; rw [if_neg (by omega)]; intro e; cases e)
    have BG16 : Hid (StBox w16 w9.heap.size (.slice G1 s'.frames.length g1) (.slice G2 s'.heap.length g2) (.slice G3 s'.out.length g3) s') := BG15.out.kept hK8 h89
    have OG16 : Hid (OwnSt (cutOwn w9.heap.size own) w8.heap.size w16 (.slice G1 s'.frames.length g1) (.slice G2 s'.heap.length g2) (.slice G3 s'.out.length g3) s' X Y Z) := OG15.out.kept hK8
    have h16 : w10.heap.size ≤ w16.heap.size := Nat.le_trans h15 hb16.size
    obtain ⟨m2, hm2⟩ : ∃ m2, m2 = m + l.length := ⟨_, rfl⟩
    rw [← hm2]
    have hm0 : decide ((m2 : Int) < 0) = false := by simp
    clear hw16 hb16 hK8 hm2 OG15 BG15 HI15
    obtain ⟨z7, e0, e1, e2, e3, e4, e5, e6⟩ := (H5.out w16 H516.out).2.2.2.2.1.cells
    obtain ⟨y7, f0, f1, f2, f3, f4, f5, f6⟩ := BG16.out.cells
    go_wp2_with fail
    refine (eqState (.slice G1 s'.frames.length g1) (.slice G2 s'.heap.length g2) (.slice G3 s'.out.length g3) (.slice A1 s'.frames.length a1) (.slice A2 s'.heap.length a2) (.slice A3 s'.out.length a3) s' _ OG16.out.stRow (H5.out _ H516.out).2.2.2.2.2).mono ?_
    rintro e w17 ⟨rfl, hb17⟩
    have H517 : Hid (Below w5.heap.size w5 w17) := H516.out.trans (hb17.mono H516.out.size)
    have BG17 : Hid (StBox w17 w9.heap.size (.slice G1 s'.frames.length g1) (.slice G2 s'.heap.length g2) (.slice G3 s'.out.length g3) s') := BG16.out.below hb17
    have OG17 : Hid (OwnSt (cutOwn w9.heap.size own) w8.heap.size w17 (.slice G1 s'.frames.length g1) (.slice G2 s'.heap.length g2) (.slice G3 s'.out.length g3) s' X Y Z) := OG16.out.below hb17
    have h17 : w10.heap.size ≤ w17.heap.size := Nat.le_trans h16 hb17.size
    clear hb17 e0 e1 e2 e3 e4 e5 e6 z7 f0 f1 f2 f3 f4 f5 f6 y7 OG16 BG16
    obtain ⟨y7, f0, f1, f2, f3, f4, f5, f6⟩ := BG17.out.cells
    go_wp2_with fail
    refine (markState (.slice G1 s'.frames.length g1) (.slice G2 s'.heap.length g2) (.slice G3 s'.out.length g3) s' X Y Z 1 _ OG17.out (by have := H910.out; omega) (fun b j hb => by have := H910.out; unfold cutOwn; rw [if_neg (by omega)]) (by omega) Hsmall.out).mono ?_
    rintro e w18 ⟨rfl, hO18, hsp⟩
    have hb18 := hsp.below
    have H518 : Hid (Below w5.heap.size w5 w18) := H517.out.trans (hb18.mono (by have := Hb8.out.size; omega))
    have BG18 : Hid (StBox w18 w9.heap.size (.slice G1 s'.frames.length g1) (.slice G2 s'.heap.length g2) (.slice G3 s'.out.length g3) s') := hsp.box (Nat.le_refl _) BG17.out
    have OG18 : Hid (StRow w8.heap.size w18 (.slice G1 s'.frames.length g1) (.slice G2 s'.heap.length g2) (.slice G3 s'.out.length g3) (markS s' 1)) := hO18.stRow
    obtain ⟨m3, hm3⟩ : ∃ m3, m3 = 1 + cntS s' := ⟨_, rfl⟩
    rw [← hm3]
    have Hm3 : Hid (m3 = 1 + cntS s') := hm3
    clear hO18 hsp hb18 hm3 f0 f1 f2 f3 f4 f5 f6 y7 OG17 BG17
    obtain ⟨y7, f0, f1, f2, f3, f4, f5, f6⟩ := BG18.out.cells
    go_wp2_with fail
    refine (heldState (.slice G1 s'.frames.length g1) (.slice G2 s'.heap.length g2) (.slice G3 s'.out.length g3) s' 1 _ OG18.out (by omega) hlf hlh Hsmall.out).mono ?_
    rintro e w19 ⟨rfl, hb19⟩
    have H519 : Hid (Below w5.heap.size w5 w19) := H518.out.trans (hb19.mono H518.out.size)
    have BG19 : Hid (StBox w19 w9.heap.size (.slice G1 s'.frames.length g1) (.slice G2 s'.heap.length g2) (.slice G3 s'.out.length g3) s') := BG18.out.below hb19
    have OG19 : Hid (StRow w8.heap.size w19 (.slice G1 s'.frames.length g1) (.slice G2 s'.heap.length g2) (.slice G3 s'.out.length g3) (markS s' 1)) := OG18.out.below hb19
    rw [← Hm3.out]
    clear hb19 f0 f1 f2 f3 f4 f5 f6 y7 OG18 BG18
    obtain ⟨⟨c0, c1⟩, -⟩ := H5.out w19 H519.out
    go_wp2_with fail
    refine (toPrg _ p _ (H5.out _ H519.out).2.1 hbulk).mono ?_
    rintro e w20 ⟨vT, rfl, hT, hb20⟩
    have H520 : Hid (Below w5.heap.size w5 w20) := H519.out.trans (hb20.mono H519.out.size)
    have HT : Hid (FnRow 0 w20 vT p) := hT.lower (Nat.zero_le _)
    have BG20 : Hid (StBox w20 w9.heap.size (.slice G1 s'.frames.length g1) (.slice G2 s'.heap.length g2) (.slice G3 s'.out.length g3) s') := BG19.out.below hb20
    have OG20 : Hid (StRow w8.heap.size w20 (.slice G1 s'.frames.length g1) (.slice G2 s'.heap.length g2) (.slice G3 s'.out.length g3) (markS s' 1)) := OG19.out.below hb20
    obtain ⟨AT, capT, rfl⟩ := hT.form
    clear hT hb20 c0 c1 OG19 BG19
    go_wp2_with fail
    refine (toInts _ l _ (H5.out _ H520.out).2.2.1 hl).mono ?_
    rintro e w21 ⟨vU, rfl, hU, hb21⟩
    have H521 : Hid (Below w5.heap.size w5 w21) := H520.out.trans (hb21.mono H520.out.size)
    have HT21 : Hid (FnRow 0 w21 (.slice AT p.length capT) p) := HT.out.below hb21
    have HU : Hid (IRow w20.heap.size w21 vU l) := hU
    have BG21 : Hid (StBox w21 w9.heap.size (.slice G1 s'.frames.length g1) (.slice G2 s'.heap.length g2) (.slice G3 s'.out.length g3) s') := BG20.out.below hb21
    have OG21 : Hid (StRow w8.heap.size w21 (.slice G1 s'.frames.length g1) (.slice G2 s'.heap.length g2) (.slice G3 s'.out.length g3) (markS s' 1)) := OG20.out.below hb21
    obtain ⟨AU, capU, rfl⟩ := hU.form
    have hB := implBegin (.slice AT p.length capT) (.slice AU l.length capU) p f fuel l w21 (H5.out _ H521.out).2.2.2.1 HT21.out HU.out
    have HBi : Hid (Calls Tryd.prog 13 #[.agg #[.slice AT p.length capT], .int .i64 f, .slice AU l.length capU, .int .i64 fuel] w21 fun e w' => BegTold p f l fuel w21 w' e) := hB
    clear hU hb21 hB OG20 BG20
    go_wp2_with fail
    refine Calls.mono (R := fun e w' => BegTold p f l fuel w21 w' e) HBi.out ?_
    rintro e w22 ⟨s2, K1, k1, K2, k2, K3, k3, own2, X2, Y2, Z2, rfl, hbeg2, hown2, hb22⟩
    obtain rfl : s2 = s' := hbeg2.unique Hbeg.out
    have H522 : Hid (Below w5.heap.size w5 w22) := H521.out.trans (hb22.mono H521.out.size)
    obtain ⟨w23, hw23⟩ : ∃ w23, w23 = w22.alloc (.cells #[.slice K1 s2.frames.length k1, .slice K2 s2.heap.length k2, .slice K3 s2.out.length k3, .int .i64 s2.fuel, .bool s2.done, .int .i64 s2.value, .int .i64 s2.trap] 37) := ⟨_, rfl⟩
    have hal : Below w22.heap.size w22 w23 := by rw [hw23]; exact (Below.refl _ _).alloc (Nat.le_refl _) _
    have H523 : Hid (Below w5.heap.size w5 w23) := H522.out.trans (hal.mono H522.out.size)
    have RK : Hid (StRow w21.heap.size w23 (.slice K1 s2.frames.length k1) (.slice K2 s2.heap.length k2) (.slice K3 s2.out.length k3) s2) := hown2.stRow.below hal
    have BG22 : Hid (StBox w22 w9.heap.size (.slice G1 s2.frames.length g1) (.slice G2 s2.heap.length g2) (.slice G3 s2.out.length g3) s2) := BG21.out.below hb22
    have BG23 : Hid (StBox w23 w9.heap.size (.slice G1 s2.frames.length g1) (.slice G2 s2.heap.length g2) (.slice G3 s2.out.length g3) s2) := BG22.out.below hal
    have OG23 : Hid (StRow w8.heap.size w23 (.slice G1 s2.frames.length g1) (.slice G2 s2.heap.length g2) (.slice G3 s2.out.length g3) (markS s2 1)) := (OG21.out.below hb22).below hal
    clear hbeg2 hown2 hb22 hal HBi OG21 BG21
    obtain ⟨z7, e0, e1, e2, e3, e4, e5, e6⟩ := (H5.out w22 H522.out).2.2.2.2.1.cells
    go_wp2_with fail
    rw [← hw23]
    clear hw23 e0 e1 e2 e3 e4 e5 e6 z7
    refine (eqState (.slice K1 s2.frames.length k1) (.slice K2 s2.heap.length k2) (.slice K3 s2.out.length k3) (.slice A1 s2.frames.length a1) (.slice A2 s2.heap.length a2) (.slice A3 s2.out.length a3) s2 _ RK.out (H5.out _ H523.out).2.2.2.2.2).mono ?_
    rintro e w24 ⟨rfl, hb24⟩
    have H524 : Hid (Below w5.heap.size w5 w24) := H523.out.trans (hb24.mono H523.out.size)
    have BG24 : Hid (StBox w24 w9.heap.size (.slice G1 s2.frames.length g1) (.slice G2 s2.heap.length g2) (.slice G3 s2.out.length g3) s2) := BG23.out.below hb24
    have OG24 : Hid (StRow w8.heap.size w24 (.slice G1 s2.frames.length g1) (.slice G2 s2.heap.length g2) (.slice G3 s2.out.length g3) (markS s2 1)) := OG23.out.below hb24
    clear hb24 OG23 BG23 BG22
    obtain ⟨y7, f0, f1, f2, f3, f4, f5, f6⟩ := BG24.out.cells
    go_wp2_with fail
    refine (heldState (.slice G1 s2.frames.length g1) (.slice G2 s2.heap.length g2) (.slice G3 s2.out.length g3) s2 1 _ OG24.out (by omega) hlf hlh Hsmall.out).mono ?_
    rintro e w25 ⟨rfl, hb25⟩
    have H525 : Hid (Below w.heap.size w w25) := Hw5.out.trans ((H524.out.trans (hb25.mono H524.out.size)).mono Hw5.out.size)
    rw [← Hm3.out]
    clear hb25
    go_wp2_with fail
    go_ret
    exact ⟨rfl, H525.out⟩
end Go.Proofs.YtfaameimocjaiaaDoor
