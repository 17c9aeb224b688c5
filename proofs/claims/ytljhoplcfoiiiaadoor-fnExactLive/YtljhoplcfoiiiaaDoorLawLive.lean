/- laws.FnExactLive. -/
import Derived.Test.YtljhoplcfoiiiaaDoorLiveT
import Derived.Test.YtljhoplcfoiiiaaDoorURow
import Derived.Test.YtljhoplcfoiiiaaDoorMarksP
import Derived.Test.YtljhoplcfoiiiaaDoorPrgEq
import Derived.Test.YtljhoplcfoiiiaaDoorArgs
namespace Go.Proofs.YtljhoplcfoiiiaaDoor
open Go.RowKit

set_option maxRecDepth 100000 in
set_option maxHeartbeats 6400000 in
theorem lawExactLive (v0 v1 : Value) (w : World) (i0 : IsProgram w v0) (i1 : IsI64 w v1) (tab : Tab w) :
    Calls Tryd.prog 5 #[v0, v1] w fun e w' => e = .returned (.bool true) ∧ Below w.heap.size w w' := by
  obtain ⟨v, p, rfl, hr, hok⟩ := i0
  obtain ⟨f, rfl, _⟩ := i1
  have Hr : Hid (FnRow 0 w v p) := hr
  have Ht : Hid (Tab w) := tab
  have Hok : Hid (∀ g ∈ p, g.ok) := hok
  obtain ⟨A, cap, rfl⟩ := hr.form
  clear hr tab hok
  have X0 : Hid (Box _ w.heap.size #[.slice A p.length cap]) := box_new w #[.slice A p.length cap] 38
  have X2 : Hid (Below w.heap.size w (w.alloc (.cells #[.slice A p.length cap] 38))) := (Below.refl _ _).alloc (Nat.le_refl _) _
  go_enter Tryd.func5, Tryd.ntmps5
  go_wp2_with fail
  refine (szPrg _ p 1048576 _ (Hr.out.below X2.out) (by omega) (by omega)).mono ?_
  rintro e w1 ⟨rfl, hb1⟩
  have Hb1 : Hid (Below w.heap.size w w1) := X2.out.trans (hb1.mono X2.out.size)
  have HB1 : Hid (Box w1 w.heap.size #[.slice A p.length cap]) := X0.out.below hb1
  clear hb1 X0 X2
  by_cases hbulk : bulk p ≤ 1048576
  · rw [show less 1048576 (bulk p) = 1048576 - bulk p by unfold less; rw [if_pos (by omega)]]
    have c0 := HB1.out.at0
    have cz := HB1.out.1
    go_wp2_with fail
    refine (toPrg _ p _ (Hr.out.below Hb1.out) hbulk).mono ?_
    rintro e wA ⟨vS, rfl, hS, hbA⟩
    have HbA : Hid (Below w.heap.size w wA) := Hb1.out.trans (hbA.mono Hb1.out.size)
    have HBA : Hid (Box wA w.heap.size #[.slice A p.length cap]) := HB1.out.below hbA
    have HS : Hid (FnRow 0 wA vS p) := hS.lower (Nat.zero_le _)
    obtain ⟨AS, capS, rfl⟩ := hS.form
    clear hbA hS c0 cz HB1 Hb1
    have c0 := HBA.out.at0
    have cz := HBA.out.1
    go_wp2_with fail
    refine (specLive _ p f _ HS.out Hok.out).mono ?_
    rintro e w2 ⟨u0, zs0, rfl, hu0, hans, hb2⟩
    obtain ⟨hs, Hhs⟩ : ∃ hs, Hid (hs = nats zs0) := ⟨_, rfl⟩
    rw [← Hhs.out] at hu0
    have Hb2 : Hid (Below w.heap.size w w2) := HbA.out.trans (hb2.mono HbA.out.size)
    have HB2 : Hid (Box w2 w.heap.size #[.slice A p.length cap]) := HBA.out.below hb2
    have HU0 : Hid (URow w2.heap.size w2 u0 hs) := hu0.urow
    have Hans : Hid (LiveAns p f zs0) := hans
    have hN2 : w.heap.size < w2.heap.size := HB2.out.1
    obtain ⟨A0, cap0, rfl⟩ := hu0.form
    clear hb2 hu0 hans c0 cz HBA HbA HS
    have c0 := HB2.out.at0
    have cz := HB2.out.1
    go_wp2_with fail
    refine (toPrgT _ p _ (Hr.out.below Hb2.out) hbulk).mono ?_
    rintro e w3 ⟨vX, rfl, hX, hb3, hth, Bf, hBf, hMk⟩
    have Hb3 : Hid (Below w.heap.size w w3) := Hb2.out.trans (hb3.mono Hb2.out.size)
    have HB3 : Hid (Box w3 w.heap.size #[.slice A p.length cap]) := HB2.out.below hb3
    have HU3 : Hid (URow w2.heap.size w3 (.slice A0 hs.length cap0) hs) := HU0.out.below hb3 (Nat.le_refl _)
    have HX : Hid (FnRow 0 w3 vX p) := hX.lower (Nat.zero_le _)
    have Hth : Hid (Thaw w2.heap.size w3) := hth
    have HMk : Hid (MarkRow Bf w3.heap.size w3 vX p) := hMk
    have h23 : w2.heap.size ≤ w3.heap.size := hb3.size
    obtain ⟨AX, capX, rfl⟩ := hX.form
    clear hX hb3 hth hMk c0 cz HB2 HU0 Hb2
    have hal : Below w3.heap.size w3 (w3.alloc (.cells #[.slice AX p.length capX] 25)) := (Below.refl _ _).alloc (Nat.le_refl _) _
    have hal' := Hb3.out.trans (hal.mono Hb3.out.size)
    have HI := implLive (.slice AX p.length capX) p f _ (Ht.out.below hal') (HX.out.below hal)
    have HIh : Hid (Calls Tryd.prog 15 #[.agg #[.slice AX p.length capX], .int .i64 f] (w3.alloc (.cells #[.slice AX p.length capX] 25)) fun e w' => LiveTold p f (w3.alloc (.cells #[.slice AX p.length capX] 25)) w' e) := HI
    have Hal : Hid (Below w3.heap.size w3 (w3.alloc (.cells #[.slice AX p.length capX] 25))) := hal
    clear HI hal hal'
    go_wp2_with fail
    refine Calls.mono (R := fun e w' => LiveTold p f (w3.alloc (.cells #[.slice AX p.length capX] 25)) w' e) HIh.out ?_
    rintro e w5 ⟨u1, zs1, rfl, hu1, hans1, hb5⟩
    have he : zs1 = zs0 := hans1.unique Hans.out
    subst he
    rw [← Hhs.out] at hu1
    have hb35 : Below w3.heap.size w3 w5 := Hal.out.trans (hb5.mono (by simp))
    have hBX := (box_new w3 #[.slice AX p.length capX] 25).below hb5
    have HBX : Hid (Box w5 w3.heap.size #[.slice AX p.length capX]) := hBX
    have Hb5 : Hid (Below w.heap.size w w5) := Hb3.out.trans (hb35.mono Hb3.out.size)
    have HB5 : Hid (Box w5 w.heap.size #[.slice A p.length cap]) := HB3.out.below hb35
    have HU5 : Hid (URow w2.heap.size w5 (.slice A0 hs.length cap0) hs) := HU3.out.below hb35 h23
    have HX5 : Hid (FnRow 0 w5 (.slice AX p.length capX) p) := HX.out.below hb35
    have HMk5 : Hid (MarkRow Bf w3.heap.size w5 (.slice AX p.length capX) p) := HMk.out.below hb35
    have Hf5 : Hid (∀ b j, Bf ≤ b → b < w3.heap.size → w5.frozen? ⟨b, j, none⟩ = false) := fun b j h1 h2 => (Hth.out.up hBf).below hb35 b j h1 h2
    have HV5 : Hid (OwnV (w3.heap.size + 1) w5 u1 hs) := hu1.lower (by simp)
    have h35 : w3.heap.size + 1 ≤ w5.heap.size := by have := hBX.1; omega
    obtain ⟨A1, cap1, rfl⟩ := hu1.form
    clear hu1 hans1 hb5 hb35 hBX HIh Hal HX HMk Hth HU3 HB3 Hb3
    have hU25 : w2.heap.size ≤ w5.heap.size := by omega
    go_wp2_with fail
    refine (eqInts _ _ hs _ HV5.out.irow (HU5.out.irow hU25)).mono ?_
    rintro e w6 ⟨rfl, hb6⟩
    have Hb6 : Hid (Below w5.heap.size w5 w6) := hb6
    have Hb6w : Hid (Below w.heap.size w w6) := Hb5.out.trans (hb6.mono Hb5.out.size)
    have HB6 : Hid (Box w6 w.heap.size #[.slice A p.length cap]) := HB5.out.below hb6
    have HBX6 : Hid (Box w6 w3.heap.size #[.slice AX p.length capX]) := HBX.out.below hb6
    clear hb6
    have c0 := HB6.out.at0
    have cz := HB6.out.1
    have d0 := HBX6.out.at0
    have dz := HBX6.out.1
    go_upto_region 10 with fail
    go_cut [35] (fun x wd => x = .bool false ∧ Below w6.heap.size w6 wd)
    case first =>
      have HK6 : Hid (∀ wP, Below w6.heap.size w6 wP → wP.cell? ⟨w.heap.size, 0, none⟩ = some (.slice A p.length cap) ∧ wP.cell? ⟨w3.heap.size, 0, none⟩ = some (.slice AX p.length capX) ∧ FnRow 0 wP (.slice A p.length cap) p ∧ FnRow 0 wP (.slice AX p.length capX) p ∧ w.heap.size < wP.heap.size ∧ w3.heap.size < wP.heap.size) := fun wP hb =>
        ⟨(HB6.out.below hb).at0, (HBX6.out.below hb).at0, (Hr.out.below Hb6w.out).below hb, (HX5.out.below Hb6.out).below hb, (HB6.out.below hb).1, (HBX6.out.below hb).1⟩
      obtain ⟨k0, k1, k2, k3, k4, k5⟩ := HK6.out w6.drew (Below.refl _ _).drew
      have HR2 : Hid (FnRow 0 w6.drew (.slice A p.length cap) p) := k2
      clear k2 k3
      go_region_with (first
        | (go_at_call 12; refine (toPrg _ p _ HR2.out hbulk).mono ?_; rintro e wP ⟨vP, rfl, hP, hbP⟩
           have hbP' : Below w6.heap.size w6 wP := (Below.refl _ _).drew.trans hbP
           obtain ⟨j0, j1, _, j3, j4, j5⟩ := HK6.out wP hbP')
        | (go_at_call 14; refine (eqPrg _ _ p _ j3 hP).mono ?_; rintro e wQ ⟨rfl, hbQ⟩
           have hbQ' : Below w6.heap.size w6 wQ := hbP'.trans (hbQ.mono hbP'.size)))
      all_goals
        go_wp2_with fail
        go_meet
        exact ⟨rfl, hbQ'⟩
    case rest =>
      obtain ⟨rfl, hb7⟩ := hcut
      have hb57 : Below w5.heap.size w5 wc := Hb6.out.trans (hb7.mono Hb6.out.size)
      have Hb7 : Hid (Below w.heap.size w wc) := Hb5.out.trans (hb57.mono Hb5.out.size)
      have HB7 : Hid (Box wc w.heap.size #[.slice A p.length cap]) := HB5.out.below hb57
      have HBX7 : Hid (Box wc w3.heap.size #[.slice AX p.length capX]) := HBX.out.below hb57
      have HU7 : Hid (URow w2.heap.size wc (.slice A0 hs.length cap0) hs) := HU5.out.below hb57 hU25
      have HMk7 : Hid (MarkRow Bf w3.heap.size wc (.slice AX p.length capX) p) := HMk5.out.below hb57
      have Hf7 : Hid (∀ b j, Bf ≤ b → b < w3.heap.size → wc.frozen? ⟨b, j, none⟩ = false) := fun b j h1 h2 => by rw [hb57.frozen (by show b < w5.heap.size; omega)]; exact Hf5.out b j h1 h2
      have HV7 : Hid (OwnV (w3.heap.size + 1) wc (.slice A1 hs.length cap1) hs) := HV5.out.below hb57
      have h7 : w3.heap.size + 1 ≤ wc.heap.size := Nat.le_trans h35 hb57.size
      clear hb7 hb57 c0 cz d0 dz HB6 HBX6 Hb6 Hb6w HB5 HBX HU5 HMk5 Hf5 HV5 Hb5 HX5
      have d0 := HBX7.out.at0
      have dz := HBX7.out.1
      go_wp2_with fail
      refine (markPrg _ p 1 _ HMk7.out Hf7.out hbulk (by omega)).mono ?_
      rintro e w8 ⟨m, rfl, hm, hs8, ⟨ho8, ht8, hp8⟩, hblk⟩
      have hNB : w.heap.size < Bf := by omega
      have hNc : w.heap.size < wc.heap.size := HB7.out.1
      have Hb8 : Hid (Below w.heap.size w w8) := ⟨ho8.trans Hb7.out.os, ht8.trans Hb7.out.tape, hp8.trans Hb7.out.output, Nat.le_trans Hb7.out.size hs8, fun b hb => (hblk b (by omega) (.inl (by omega))).trans (Hb7.out.block b hb)⟩
      have HB8 : Hid (Box w8 w.heap.size #[.slice A p.length cap]) := ⟨by have := HB7.out.1; omega, fun j => by rw [World.cell?_of_block (w := wc) (hblk w.heap.size HB7.out.1 (.inl hNB))]; exact HB7.out.2 j⟩
      have HU8 : Hid (URow w2.heap.size w8 (.slice A0 hs.length cap0) hs) := HU7.out.kept fun b hb => hblk b (by omega) (.inl (by omega))
      have HV8 : Hid (OwnV (w3.heap.size + 1) w8 (.slice A1 hs.length cap1) hs) := HV7.out.kept hs8 fun b hb hl => hblk b hl (.inr (by omega))
      have h8 : w3.heap.size + 1 ≤ w8.heap.size := by omega
      have h28 : w2.heap.size ≤ w8.heap.size := by omega
      clear hs8 ho8 ht8 hp8 hblk d0 dz HB7 HBX7 HU7 HMk7 Hf7 HV7 Hb7
      have hm0 : decide ((m : Int) < 0) = false := by simp
      go_wp2_with fail
      refine (eqInts _ _ hs _ HV8.out.irow (HU8.out.irow h28)).mono ?_
      rintro e w9 ⟨rfl, hb9⟩
      have Hb9 : Hid (Below w.heap.size w w9) := Hb8.out.trans (hb9.mono Hb8.out.size)
      have HB9 : Hid (Box w9 w.heap.size #[.slice A p.length cap]) := HB8.out.below hb9
      have HU9 : Hid (URow w2.heap.size w9 (.slice A0 hs.length cap0) hs) := HU8.out.below hb9 h28
      have HV9 : Hid (OwnV (w3.heap.size + 1) w9 (.slice A1 hs.length cap1) hs) := HV8.out.below hb9
      have h9 : w3.heap.size + 1 ≤ w9.heap.size := Nat.le_trans h8 hb9.size
      clear hb9 HB8 HU8 HV8 Hb8
      go_wp2_with fail
      refine (markOwn _ hs 1 _ HV9.out h9 (by omega)).mono ?_
      rintro e w10 ⟨rfl, hV10, hb10⟩
      have hlen : hs.length ≤ 1048576 := by obtain ⟨_, _, _, h, _⟩ := HU9.out; exact h
      have HV10 : Hid (OwnV (w3.heap.size + 1) w10 (.slice A1 hs.length cap1) (marks hs.length 1)) := hV10
      have Hb10 : Hid (Below w.heap.size w w10) := Hb9.out.trans (hb10.mono (by omega))
      have HB10 : Hid (Box w10 w.heap.size #[.slice A p.length cap]) := ⟨by have := HB9.out.1; have := hb10.size; omega, fun j => by rw [hb10.cell (by show w.heap.size < w3.heap.size + 1; omega)]; exact HB9.out.2 j⟩
      have HU10 : Hid (URow w2.heap.size w10 (.slice A0 hs.length cap0) hs) := HU9.out.below hb10 (by omega)
      have h10 : w2.heap.size ≤ w10.heap.size := by have := hb10.size; omega
      clear hV10 hb10 HB9 HU9 HV9 Hb9
      go_wp2_with fail
      refine (heldInts _ hs.length 1 _ hlen (by omega) HV10.out.irow).mono ?_
      rintro e w11 ⟨rfl, hw11⟩
      subst w11
      have c0 := HB10.out.at0
      have cz := HB10.out.1
      go_wp2_with fail
      refine (toPrg _ p _ (Hr.out.below Hb10.out) hbulk).mono ?_
      rintro e wB ⟨vT, rfl, hT, hbB⟩
      have HbB : Hid (Below w.heap.size w wB) := Hb10.out.trans (hbB.mono Hb10.out.size)
      have HTr : Hid (FnRow 0 wB vT p) := hT.lower (Nat.zero_le _)
      have HUB : Hid (URow w2.heap.size wB (.slice A0 hs.length cap0) hs) := HU10.out.below hbB h10
      have HVB : Hid (OwnV (w3.heap.size + 1) wB (.slice A1 hs.length cap1) (marks hs.length 1)) := HV10.out.below hbB
      have hB2 : w2.heap.size ≤ wB.heap.size := Nat.le_trans h10 hbB.size
      obtain ⟨AT, capT, rfl⟩ := hT.form
      clear hT hbB HB10 HU10 HV10 Hb10 c0 cz
      go_wp2_with fail
      refine (implLive _ p f _ (Ht.out.below HbB.out) HTr.out).mono ?_
      rintro e w12 ⟨u2, zs2, rfl, hu2, hans2, hb12⟩
      have he : zs2 = zs1 := hans2.unique Hans.out
      subst he
      rw [← Hhs.out] at hu2
      have HU2 : Hid (OwnV wB.heap.size w12 u2 hs) := hu2
      obtain ⟨A2, cap2, rfl⟩ := hu2.form
      have Hb12 : Hid (Below w.heap.size w w12) := HbB.out.trans (hb12.mono HbB.out.size)
      have HU12 : Hid (URow w2.heap.size w12 (.slice A0 hs.length cap0) hs) := HUB.out.below hb12 hB2
      have HV12 : Hid (OwnV (w3.heap.size + 1) w12 (.slice A1 hs.length cap1) (marks hs.length 1)) := HVB.out.below hb12
      have h12 : w2.heap.size ≤ w12.heap.size := Nat.le_trans hB2 hb12.size
      clear hu2 hans2 hb12 HUB HVB HTr HbB
      go_wp2_with fail
      refine (eqInts _ _ hs _ HU2.out.irow (HU12.out.irow h12)).mono ?_
      rintro e w13 ⟨rfl, hb13⟩
      have HV13 : Hid (OwnV (w3.heap.size + 1) w13 (.slice A1 hs.length cap1) (marks hs.length 1)) := HV12.out.below hb13
      have Hb13 : Hid (Below w.heap.size w w13) := Hb12.out.trans (hb13.mono Hb12.out.size)
      clear hb13 HU12 HV12 Hb12 HU2
      go_wp2_with fail
      refine (heldInts _ hs.length 1 _ hlen (by omega) HV13.out.irow).mono ?_
      rintro e w14 ⟨rfl, hw14⟩
      subst w14
      go_wp2_with fail
      go_ret
      exact ⟨rfl, Hb13.out⟩
  · rw [show less 1048576 (bulk p) = -1 by unfold less; rw [if_neg (by omega)]]
    go_wp2_with fail
    go_ret
    exact ⟨rfl, Hb1.out⟩
end Go.Proofs.YtljhoplcfoiiiaaDoor
