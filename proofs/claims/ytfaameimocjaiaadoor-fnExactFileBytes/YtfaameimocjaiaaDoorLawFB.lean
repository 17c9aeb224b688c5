/- laws.FnExactFileBytes. -/
import Derived.Test.YtfaameimocjaiaaDoorFileI
import Derived.Test.YtfaameimocjaiaaDoorFileS
import Derived.Test.YtfaameimocjaiaaDoorPrgSz
import Derived.Test.YtfaameimocjaiaaDoorPrgEq
namespace Go.Proofs.YtfaameimocjaiaaDoor
open Go.RowKit

theorem fbTold_unique {p : List FnM} {t u : ByteArray} (h : (RightP p ∧ t = ⟨(fileB p).toArray⟩) ∨ (¬ RightP p ∧ t = ⟨#[]⟩)) (k : (RightP p ∧ u = ⟨(fileB p).toArray⟩) ∨ (¬ RightP p ∧ u = ⟨#[]⟩)) : t = u := by
  rcases h with ⟨h1, h2⟩ | ⟨h1, h2⟩ <;> rcases k with ⟨k1, k2⟩ | ⟨k1, k2⟩
  · rw [h2, k2]
  · exact absurd h1 k1
  · exact absurd k1 h1
  · rw [h2, k2]

set_option maxRecDepth 100000 in
set_option maxHeartbeats 3200000 in
theorem lawExactFileBytes (v0 : Value) (w : World) (i0 : IsProgram w v0) (tab : Tab w) :
    Calls Tryd.prog 3 #[v0] w fun e w' => e = .returned (.bool true) ∧ Below w.heap.size w w' := by
  obtain ⟨v, p, rfl, hr, hok⟩ := i0
  have Hr : Hid (FnRow 0 w v p) := hr
  have Ht : Hid (Tab w) := tab
  have Hok : Hid (∀ g ∈ p, g.ok) := hok
  obtain ⟨A, cap, rfl⟩ := hr.form
  clear hr tab hok
  have X0 : Hid (Box _ w.heap.size #[.slice A p.length cap]) := box_new w #[.slice A p.length cap] 24
  have X2 : Hid (Below w.heap.size w (w.alloc (.cells #[.slice A p.length cap] 24))) := (Below.refl _ _).alloc (Nat.le_refl _) _
  go_enter Tryd.func3, Tryd.ntmps3
  go_wp2_with fail
  refine (szPrg _ p 1048576 _ (Hr.out.below X2.out) (by omega) (by omega)).mono ?_
  rintro e w1 ⟨rfl, hb1⟩
  have Hb1 : Hid (Below w.heap.size w w1) := X2.out.trans (hb1.mono X2.out.size)
  have Hk : Hid (∀ w', Below w1.heap.size w1 w' → w'.cell? ⟨w.heap.size, 0, none⟩ = some (.slice A p.length cap) ∧ w.heap.size < w'.heap.size ∧ FnRow 0 w' (.slice A p.length cap) p ∧ Tab w') := by
    intro w' h
    have b0 := (X0.out.below hb1).below h
    exact ⟨b0.at0, b0.1, (Hr.out.below Hb1.out).below h, (Ht.out.below Hb1.out).below h⟩
  clear hb1 X0 X2 Hr Ht
  by_cases hbulk : bulk p ≤ 1048576
  · rw [show less 1048576 (bulk p) = 1048576 - bulk p by unfold less; rw [if_pos (by omega)]]
    obtain ⟨c0, hz, -, -⟩ := Hk.out w1 (Below.refl _ _)
    go_wp2_with fail
    refine (toPrg _ p _ (Hk.out _ (Below.refl _ _)).2.2.1 hbulk).mono ?_
    rintro e w2 ⟨vS, rfl, hS, hb2⟩
    have Hb2 : Hid (Below w1.heap.size w1 w2) := hb2
    have HS : Hid (FnRow 0 w2 vS p) := hS.lower (Nat.zero_le _)
    obtain ⟨AS, capS, rfl⟩ := hS.form
    clear hS hb2 c0 hz
    go_wp2_with fail
    refine (specFile _ p _ HS.out Hok.out).mono ?_
    rintro e w3 ⟨t, rfl, hb3, hans⟩
    have Hans : Hid ((RightP p ∧ t = ⟨(fileB p).toArray⟩) ∨ (¬ RightP p ∧ t = ⟨#[]⟩)) := hans
    have Hb3 : Hid (Below w1.heap.size w1 w3) := Hb2.out.trans (hb3.mono Hb2.out.size)
    clear hb3 HS Hb2 hans
    obtain ⟨c0, hz, -, -⟩ := Hk.out w3 Hb3.out
    go_wp2_with fail
    refine (toPrg _ p _ (Hk.out _ Hb3.out).2.2.1 hbulk).mono ?_
    rintro e w4 ⟨vX, rfl, hX, hb4⟩
    have Hb4 : Hid (Below w1.heap.size w1 w4) := Hb3.out.trans (hb4.mono Hb3.out.size)
    obtain ⟨AX, capX, rfl⟩ := hX.form
    have hal : Below w4.heap.size w4 (w4.alloc (.cells #[.slice AX p.length capX] 29)) := (Below.refl _ _).alloc (Nat.le_refl _) _
    have Hb5 : Hid (Below w1.heap.size w1 (w4.alloc (.cells #[.slice AX p.length capX] 29))) := Hb4.out.trans (hal.mono Hb4.out.size)
    have HX : Hid (FnRow 0 (w4.alloc (.cells #[.slice AX p.length capX] 29)) (.slice AX p.length capX) p) := (hX.lower (Nat.zero_le _)).below hal
    have HBX : Hid (Box (w4.alloc (.cells #[.slice AX p.length capX] 29)) w4.heap.size #[.slice AX p.length capX]) := box_new w4 #[.slice AX p.length capX] 29
    clear hX hb4 hal c0 hz
    go_wp2_with fail
    refine (implFile _ p _ (Hk.out _ Hb5.out).2.2.2 HX.out Hok.out).mono ?_
    rintro e w6 ⟨t', rfl, hb6, hans'⟩
    obtain rfl : t' = t := fbTold_unique hans' Hans.out
    have Hb6 : Hid (Below w1.heap.size w1 w6) := Hb5.out.trans (hb6.mono Hb5.out.size)
    have HX6 : Hid (FnRow 0 w6 (.slice AX p.length capX) p) := HX.out.below hb6
    have HBX6 : Hid (Box w6 w4.heap.size #[.slice AX p.length capX]) := HBX.out.below hb6
    clear hb6 hans' HX HBX Hb5 Hb4 Hb3
    obtain ⟨c0, hz, -, -⟩ := Hk.out w6 Hb6.out
    have d0 := HBX6.out.at0
    have dz := HBX6.out.1
    go_upto_region 10 with fail
    go_cut [26] (fun x wd => x = .bool false ∧ Below w6.heap.size w6 wd)
    case first =>
      have HK6 : Hid (∀ wP, Below w6.heap.size w6 wP → wP.cell? ⟨w.heap.size, 0, none⟩ = some (.slice A p.length cap) ∧ wP.cell? ⟨w4.heap.size, 0, none⟩ = some (.slice AX p.length capX) ∧ FnRow 0 wP (.slice A p.length cap) p ∧ FnRow 0 wP (.slice AX p.length capX) p ∧ w.heap.size < wP.heap.size ∧ w4.heap.size < wP.heap.size) := fun wP hb =>
        have hw := Hb6.out.trans (hb.mono Hb6.out.size)
        ⟨(Hk.out _ hw).1, (HBX6.out.below hb).at0, (Hk.out _ hw).2.2.1, HX6.out.below hb, (Hk.out _ hw).2.1, (HBX6.out.below hb).1⟩
      obtain ⟨k0, k1, k2, k3, k4, k5⟩ := HK6.out w6.drew (Below.refl _ _).drew
      have HR2 : Hid (FnRow 0 w6.drew (.slice A p.length cap) p) := k2
      clear k2 k3
      go_region_with (first
        | (go_at_call 8; refine (toPrg _ p _ HR2.out hbulk).mono ?_; rintro e wP ⟨vP, rfl, hP, hbP⟩
           have hbP' : Below w6.heap.size w6 wP := (Below.refl _ _).drew.trans hbP
           obtain ⟨j0, j1, _, j3, j4, j5⟩ := HK6.out wP hbP')
        | (go_at_call 10; refine (eqPrg _ _ p _ j3 hP).mono ?_; rintro e wQ ⟨rfl, hbQ⟩
           have hbQ' : Below w6.heap.size w6 wQ := hbP'.trans (hbQ.mono hbP'.size)))
      all_goals
        go_wp2_with fail
        go_meet
        exact ⟨rfl, hbQ'⟩
    case rest =>
      obtain ⟨rfl, hwe⟩ := hcut
      have He : Hid (Below w.heap.size w wc) := Hb1.out.trans ((Hb6.out.trans (hwe.mono Hb6.out.size)).mono Hb1.out.size)
      clear hwe
      go_wp2_with fail
      go_ret
      exact ⟨rfl, He.out⟩
  · rw [show less 1048576 (bulk p) = -1 by unfold less; rw [if_neg (by omega)]]
    go_wp2_with fail
    go_ret
    exact ⟨rfl, Hb1.out⟩
end Go.Proofs.YtfaameimocjaiaaDoor
