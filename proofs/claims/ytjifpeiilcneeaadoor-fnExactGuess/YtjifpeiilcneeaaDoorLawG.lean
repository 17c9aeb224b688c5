/- laws.FnExactGuess. -/
import Derived.Test.YtjifpeiilcneeaaDoorGuessI
import Derived.Test.YtjifpeiilcneeaaDoorGuessS
import Derived.Test.YtjifpeiilcneeaaDoorPrgTo
import Derived.Test.YtjifpeiilcneeaaDoorPrgEq
namespace Go.Proofs.YtjifpeiilcneeaaDoor
open Go.RowKit

theorem toPrgA {B : Nat} (v : Value) (p : List FnM) (w : World) (hr : FnRow B w v p) (hn : bulk p ≤ 1048576) :
    Calls Tryd.prog 8 #[.agg #[v]] w fun e w' => ∃ A c, e = .returned (.agg #[.slice A p.length c]) ∧ FnRow w.heap.size w' (.slice A p.length c) p ∧ Below w.heap.size w w' := by
  refine Calls.mono (toPrg v p w hr hn) ?_
  rintro e w' ⟨v', rfl, hP, hb⟩
  obtain ⟨A, c, rfl⟩ := hP.form
  exact ⟨A, c, rfl, hP, hb⟩

set_option maxRecDepth 100000 in
set_option maxHeartbeats 6400000 in
theorem lawExactGuess (v0 v1 v2 v3 : Value) (w : World) (i0 : IsProgram w v0) (i1 : IsSeen w v1) (i2 : IsI64 w v2) (i3 : IsI64 w v3) (tab : Tab w) :
    Calls Tryd.prog 4 #[v0, v1, v2, v3] w fun e w' => e = .returned (.bool true) ∧ Below w.heap.size w w' := by
  obtain ⟨v, p, rfl, hr, hok⟩ := i0
  obtain ⟨l, hl, hokl⟩ := i1
  obtain ⟨f, rfl, -⟩ := i2
  obtain ⟨a, rfl, -⟩ := i3
  obtain ⟨A, cap, rfl⟩ := hr.form
  obtain ⟨D, dap, rfl⟩ := hl.form
  have hll := hl.len
  have Hr : Hid (FnRow 0 w (.slice A p.length cap) p) := hr
  have Hs : Hid (SnRow 0 w (.slice D l.length dap) l) := hl
  have Ht : Hid (Tab w) := tab
  have Hok : Hid (∀ g ∈ p, g.ok) := hok
  have Hokl : Hid (∀ s ∈ l, s.ok) := hokl
  clear hr hl tab hok hokl
  have X0 : Hid (Box _ w.heap.size #[.slice A p.length cap]) := box_new w #[.slice A p.length cap] 24
  have X2 : Hid (Below w.heap.size w (w.alloc (.cells #[.slice A p.length cap] 24))) := (Below.refl _ _).alloc (Nat.le_refl _) _
  go_enter Tryd.func4, Tryd.ntmps4
  go_wp2_with fail
  refine (szPrg _ p 1048576 _ (Hr.out.below X2.out) (by omega) (by omega)).mono ?_
  rintro e w1 ⟨rfl, hb1⟩
  have Hb1 : Hid (Below w.heap.size w w1) := X2.out.trans (hb1.mono X2.out.size)
  have Hk : Hid (∀ w', Below w1.heap.size w1 w' → (w'.cell? ⟨w.heap.size, 0, none⟩ = some (.slice A p.length cap) ∧ w.heap.size < w'.heap.size) ∧ FnRow 0 w' (.slice A p.length cap) p ∧ SnRow 0 w' (.slice D l.length dap) l ∧ Tab w') := by
    intro w' h
    have b0 := (X0.out.below hb1).below h
    exact ⟨⟨b0.at0, b0.1⟩, (Hr.out.below Hb1.out).below h, (Hs.out.below Hb1.out).below h, (Ht.out.below Hb1.out).below h⟩
  clear hb1 X0 X2 Hr Hs Ht
  by_cases hc : bulk p ≤ 1048576
  case neg =>
    rw [show less 1048576 (bulk p) = -1 by unfold less; rw [if_neg (by omega)]]
    go_wp2_with fail
    go_ret
    exact ⟨rfl, Hb1.out⟩
  rw [show less 1048576 (bulk p) = 1048576 - bulk p by unfold less; rw [if_pos (by omega)]]
  go_wp2_with fail
  refine (szSeen (.slice D l.length dap) l _ _ (Hk.out w1 (Below.refl _ _)).2.2.1 (by omega) (by omega)).mono ?_
  rintro e w2 ⟨rfl, h⟩
  subst w2
  by_cases hd : (l.length : Int) ≤ 1048576 - bulk p
  case neg =>
    rw [show less (1048576 - (bulk p : Int)) l.length = -1 by unfold less; rw [if_neg (by omega)]]
    go_wp2_with fail
    go_ret
    exact ⟨rfl, Hb1.out⟩
  rw [show less (1048576 - (bulk p : Int)) l.length = 1048576 - bulk p - l.length by unfold less; rw [if_pos (by omega)]]
  have hd' : l.length ≤ 1048576 := by omega
  obtain ⟨c0, c1⟩ := (Hk.out w1 (Below.refl _ _)).1
  go_wp2_with fail
  refine (toPrgA (.slice A p.length cap) p _ (Hk.out _ (Below.refl _ _)).2.1 hc).mono ?_
  rintro e wP ⟨P0, p0, rfl, hP, hbP⟩
  have HbP : Hid (Below w1.heap.size w1 wP) := hbP
  have HP : Hid (FnRow 0 wP (.slice P0 p.length p0) p) := hP.lower (Nat.zero_le _)
  clear hP hbP c0 c1
  go_wp2_with fail
  refine (toSeenS (.slice D l.length dap) l _ (Hk.out _ HbP.out).2.2.1 hd').mono ?_
  rintro e wQ ⟨Q0, q0, rfl, hQ, hbQ⟩
  have HbQ : Hid (Below w1.heap.size w1 wQ) := HbP.out.trans (hbQ.mono HbP.out.size)
  have hsp := specGuess (.slice P0 p.length p0) (.slice Q0 l.length q0) p l f a wQ (HP.out.below hbQ) Hok.out (hQ.lower (Nat.zero_le _)) Hokl.out
  have Hsp : Hid (Calls Tryd.prog 13 #[.agg #[.slice P0 p.length p0], .slice Q0 l.length q0, .int .i64 f, .int .i64 a] wQ fun e w' => GuToldS (GuessS p l f a) wQ w' e) := hsp
  clear hQ hbQ hsp HP
  go_wp2_with fail
  refine Calls.mono (R := fun e w' => GuToldS (GuessS p l f a) wQ w' e) Hsp.out ?_
  rintro e wc ⟨bw, rfl, hwc, hbw⟩
  have Hbw : Hid (GuessS p l f a bw) := hbw
  have Hc : Hid (Below w1.heap.size w1 wc) := HbQ.out.trans (hwc.mono HbQ.out.size)
  clear hwc hbw Hsp
  obtain ⟨c0, c1⟩ := (Hk.out wc Hc.out).1
  go_wp2_with fail
  refine (toPrgA (.slice A p.length cap) p _ (Hk.out _ Hc.out).2.1 hc).mono ?_
  rintro e w4 ⟨P1, p1, rfl, hX, hb4⟩
  have Hb4 : Hid (Below w1.heap.size w1 w4) := Hc.out.trans (hb4.mono Hc.out.size)
  have HX : Hid (FnRow 0 w4 (.slice P1 p.length p1) p) := hX.lower (Nat.zero_le _)
  have hal4 : Below w4.heap.size w4 (w4.alloc (.cells #[.slice P1 p.length p1] 31)) := (Below.refl _ _).alloc (Nat.le_refl _) _
  have Hal4 : Hid (Below w4.heap.size w4 (w4.alloc (.cells #[.slice P1 p.length p1] 31))) := hal4
  have Hb4a : Hid (Below w1.heap.size w1 (w4.alloc (.cells #[.slice P1 p.length p1] 31))) := Hb4.out.trans (hal4.mono Hb4.out.size)
  have B4 : Hid (Box (w4.alloc (.cells #[.slice P1 p.length p1] 31)) w4.heap.size #[.slice P1 p.length p1]) := box_new w4 _ 31
  clear c0 c1 hX hb4 hal4
  go_wp2_with fail
  refine (toSeenS (.slice D l.length dap) l _ (Hk.out _ Hb4a.out).2.2.1 hd').mono ?_
  rintro e w6 ⟨Q1, q1, rfl, hY, hb6⟩
  have Hb6 : Hid (Below w1.heap.size w1 w6) := Hb4a.out.trans (hb6.mono Hb4a.out.size)
  have HX6 : Hid (FnRow 0 w6 (.slice P1 p.length p1) p) := (HX.out.below Hal4.out).below hb6
  have HY6 : Hid (SnRow 0 w6 (.slice Q1 l.length q1) l) := hY.lower (Nat.zero_le _)
  have B6 : Hid (Box w6 w4.heap.size #[.slice P1 p.length p1]) := B4.out.below hb6
  have Hk2 : Hid (∀ w', Below w6.heap.size w6 w' → (w'.cell? ⟨w4.heap.size, 0, none⟩ = some (.slice P1 p.length p1) ∧ w4.heap.size < w'.heap.size) ∧ FnRow 0 w' (.slice P1 p.length p1) p ∧ SnRow 0 w' (.slice Q1 l.length q1) l ∧ Below w1.heap.size w1 w') := by
    intro w' h
    have b := B6.out.below h
    exact ⟨⟨b.at0, b.1⟩, HX6.out.below h, HY6.out.below h, Hb6.out.trans (h.mono Hb6.out.size)⟩
  have c0 := B6.out.at0
  have c1 := B6.out.1
  have hir := implGuess (.slice P1 p.length p1) (.slice Q1 l.length q1) p l f a w6 ((Hk.out _ Hb6.out).2.2.2) HX6.out HY6.out hc
  have Hir : Hid (Calls Tryd.prog 14 #[.agg #[.slice P1 p.length p1], .slice Q1 l.length q1, .int .i64 f, .int .i64 a] w6 fun e w' => GuTold (GuessI p l f a) w6 w' e) := hir
  clear hY hb6 B4 B6 hir
  go_wp2_with fail
  refine Calls.mono (R := fun e w' => GuTold (GuessI p l f a) w6 w' e) Hir.out ?_
  rintro e w8 ⟨bi, rfl, hb8, hbi⟩
  obtain rfl : bi = bw := guess_same hbi Hbw.out
  have Hb8 : Hid (Below w6.heap.size w6 w8) := hb8
  have H18 : Hid (Below w1.heap.size w1 w8) := (Hk2.out w8 hb8).2.2.2
  clear c0 c1 hb8 HX6 HY6 HX Hb4a Hir hbi
  obtain ⟨c0, c1⟩ := (Hk.out w8 H18.out).1
  obtain ⟨e0, e1⟩ := (Hk2.out w8 Hb8.out).1
  go_wp2_with fail
  go_cut [47] (fun q wc => q = .bool false ∧ Below w6.heap.size w6 wc)
  case first =>
    go_region_with (first
      | (go_at_call 8; refine (toPrgA (.slice A p.length cap) p _ (Hk.out _ H18.out.drew).2.1 hc).mono ?_; rintro e wP ⟨R1, r1, rfl, hP, hbP⟩
         have hbP' := Hb8.out.drew.trans (hbP.mono Hb8.out.size)
         obtain ⟨f0, f1⟩ := (Hk2.out wP hbP').1)
      | (go_at_call 11; refine (eqPrg _ _ p _ (Hk2.out wP hbP').2.1 hP).mono ?_; rintro e wQ ⟨rfl, hbQ⟩
         have hbQ' := hbP'.trans (hbQ.mono hbP'.size)))
    all_goals
      go_wp2_with fail
      go_meet
      exact ⟨rfl, hbQ'⟩
  case rest =>
    obtain ⟨rfl, hwc⟩ := hcut
    rename World => wd
    have Hb9 : Hid (Below w6.heap.size w6 wd) := hwc
    have H19 : Hid (Below w1.heap.size w1 wd) := (Hk2.out wd hwc).2.2.2
    clear c0 c1 e0 e1 hwc
    go_wp2_with fail
    refine (toSeenS (.slice D l.length dap) l _ (Hk.out _ H19.out).2.2.1 hd').mono ?_
    rintro e wR ⟨R1, r1, rfl, hR, hbR⟩
    have HbR : Hid (Below w6.heap.size w6 wR) := Hb9.out.trans (hbR.mono Hb9.out.size)
    have HR : Hid (SnRow 0 wR (.slice R1 l.length r1) l) := hR.lower (Nat.zero_le _)
    clear hR hbR
    go_wp2_with fail
    refine (eqSeenS (.slice Q1 l.length q1) (.slice R1 l.length r1) l _ (Hk2.out _ HbR.out).2.2.1 HR.out).mono ?_
    rintro e wS ⟨rfl, hbS⟩
    have HbS : Hid (Below w.heap.size w wS) := Hb1.out.trans ((Hk2.out wS (HbR.out.trans (hbS.mono HbR.out.size))).2.2.2.mono Hb1.out.size)
    clear hbS
    go_wp2_with fail
    go_ret
    exact ⟨rfl, HbS.out⟩
end Go.Proofs.YtjifpeiilcneeaaDoor
