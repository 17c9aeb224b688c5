/- spec.l04Func. -/
import Derived.Test.YtijgonjnmibifaaGreatDoorSpecH
import Derived.Test.YtijgonjnmibifaaGreatDoorHeightI
import Derived.Deep.RegionHeld3
namespace Go.Proofs.YtijgonjnmibifaaGreatDoor
open Go.RowKit

/-- what l04Func tells of function f -/
def SFuncTold (p : List FnM) (f : Nat) (w w' : World) (e : Ending) : Prop :=
  ∃ F A C : Int, e = .returned (.agg #[.int .i64 F, .int .i64 A, .int .i64 C]) ∧ Below w.heap.size w w' ∧ (C = 0 → F = 0 ∧ A = 0) ∧ (C ≠ 0 → F = f) ∧ FuncIs p f A C

theorem insAt_getS (c : List (Int × Int)) (k : Nat) (h : k < c.length) : insAt c k = c[k] := by simp [insAt, List.getD, h]

set_option maxRecDepth 100000 in
set_option maxHeartbeats 3200000 in
theorem specFunc (v : Value) (p : List FnM) (f : Nat) (w : World) (hr : FnRow 0 w v p) (hp : ∀ g ∈ p, g.ok) (hf : f < p.length) :
    Calls Tryz.prog 138 #[.agg #[v], .int .i64 f] w fun e w' => SFuncTold p f w w' e := by
  have Hr : Hid (FnRow 0 w v p) := hr
  have Hp : Hid (∀ g ∈ p, g.ok) := hp
  have hlen := hr.len
  obtain ⟨A, cap, rfl⟩ := hr.form
  obtain ⟨b0, off0, x, rfl, hlt0, e0, e1, e2, hx⟩ := hr.at f hf
  have Hfn : Hid (fnAt p f = p[f]) := fnAt_nat p f hf
  have Hx : Hid (InsRow 0 w x p[f].code) := hx
  obtain ⟨Ac, capc, rfl⟩ := hx.form
  have hcl : p[f].code.length ≤ 9223372036854775807 := by obtain ⟨_, _, _, h, _⟩ := hx; exact h
  clear hr hp hx
  obtain ⟨x0, x1, x2, x3⟩ := three_box w #[.slice (some ⟨b0, off0, none⟩) p.length cap] #[.int .i64 0, .int .i64 0, .int .i64 0] #[.int .i64 p[f].args, .int .i64 p[f].locals, .slice Ac p[f].code.length capc] 34 108 105
  have X0 : Hid (Box _ w.heap.size #[.slice (some ⟨b0, off0, none⟩) p.length cap]) := x0
  have X1 : Hid (VRow _ (w.heap.size + 1) (ints [0, 0, 0])) := x1
  have X2 : Hid (Box _ (w.heap.size + 1 + 1) #[.int .i64 p[f].args, .int .i64 p[f].locals, .slice Ac p[f].code.length capc]) := x2
  have X3 : Hid (Below _ _ _) := x3
  clear x0 x1 x2 x3
  obtain ⟨fm, hfm⟩ : ∃ fm, fm = formOk p[f] := ⟨_, rfl⟩
  have Hfm : Hid (fm = formOk p[f]) := hfm
  obtain ⟨ar, har⟩ : ∃ ar, ar = p[f].args := ⟨_, rfl⟩
  obtain ⟨lo, hlo⟩ : ∃ lo, lo = p[f].locals := ⟨_, rfl⟩
  obtain ⟨c, hc⟩ : ∃ c, c = p[f].code := ⟨_, rfl⟩
  have hdef : formOk p[f] = decide (0 ≤ ar ∧ ar ≤ 4 ∧ ar ≤ lo ∧ lo ≤ 8 ∧ 1 ≤ c.length ∧ c.length ≤ 60) := by rw [har, hlo, hc]; rfl
  rw [← har] at e0
  rw [← hlo] at e1
  rw [← hc] at e2 hcl Hx
  rw [← har, ← hlo, ← hc] at X0 X1 X2 X3
  have Hcf : Hid (c = p[f].code) := hc
  rw [hdef] at hfm
  have Hform : Hid (formOk (fnAt p f) = fm) := by rw [Hfn.out]; exact Hfm.out.symm
  clear har hlo hc hdef Hfm
  go_enter Tryz.func138, Tryz.ntmps138
  go_upto_region 2 with fail
  go_cut [45] (fun y wd => y = .bool (!fm) ∧ Box wd w.heap.size #[.slice (some ⟨b0, off0, none⟩) p.length cap] ∧ VRow wd (w.heap.size + 1) (ints [0, 0, 0]) ∧ Box wd (w.heap.size + 1 + 1) #[.int .i64 ar, .int .i64 lo, .slice Ac c.length capc] ∧ Below w.heap.size w wd)
  case first =>
    have hX : Hid (Box _ w.heap.size #[.slice (some ⟨b0, off0, none⟩) p.length cap] ∧ VRow _ (w.heap.size + 1) (ints [0, 0, 0]) ∧ Box _ (w.heap.size + 1 + 1) #[.int .i64 ar, .int .i64 lo, .slice Ac c.length capc] ∧ Below w.heap.size w _) := ⟨X0.out, X1.out, X2.out, X3.out⟩
    clear X0 X1 X2 X3
    by_cases h1 : ar < 0
    · have hfv : fm = false := by rw [hfm]; simp only [decide_eq_false_iff_not]; omega
      subst hfv
      clear hfm
      go_wp2_with fail
      go_meet
      exact ⟨rfl, hX.out⟩
    · have h1' : decide (ar < 0) = false := by simp; omega
      by_cases h2 : 4 < ar
      · have hfv : fm = false := by rw [hfm]; simp only [decide_eq_false_iff_not]; omega
        subst hfv
        clear hfm
        go_wp2_with fail
        go_meet
        exact ⟨rfl, hX.out⟩
      · have h2' : decide (4 < ar) = false := by simp; omega
        by_cases h3 : lo < ar
        · have hfv : fm = false := by rw [hfm]; simp only [decide_eq_false_iff_not]; omega
          subst hfv
          clear hfm
          go_wp2_with fail
          go_meet
          exact ⟨rfl, hX.out⟩
        · have h3' : decide (lo < ar) = false := by simp; omega
          by_cases h4 : 8 < lo
          · have hfv : fm = false := by rw [hfm]; simp only [decide_eq_false_iff_not]; omega
            subst hfv
            clear hfm
            go_wp2_with fail
            go_meet
            exact ⟨rfl, hX.out⟩
          · have h4' : decide (8 < lo) = false := by simp; omega
            by_cases h5 : (c.length : Int) < 1
            · have hfv : fm = false := by rw [hfm]; simp only [decide_eq_false_iff_not]; omega
              subst hfv
              clear hfm
              go_wp2_with fail
              go_meet
              exact ⟨rfl, hX.out⟩
            · have h5' : decide ((c.length : Int) < 1) = false := by simp; omega
              by_cases h6 : (60 : Int) < c.length
              · have hfv : fm = false := by rw [hfm]; simp only [decide_eq_false_iff_not]; omega
                subst hfv
                clear hfm
                go_wp2_with fail
                go_meet
                exact ⟨rfl, hX.out⟩
              · have h6' : decide ((60 : Int) < c.length) = false := by simp; omega
                have hfv : fm = true := by rw [hfm]; simp only [decide_eq_true_eq]; omega
                subst hfv
                clear hfm
                go_wp2_with fail
                go_meet
                exact ⟨rfl, hX.out⟩
  case rest =>
    obtain ⟨rfl, hB, hV, hF, hb⟩ := hcut
    clear X0 X1 X2 X3 e0 e1 e2
    have HB : Hid (Box wc w.heap.size #[.slice (some ⟨b0, off0, none⟩) p.length cap]) := hB
    have HV : Hid (VRow wc (w.heap.size + 1) (ints [0, 0, 0])) := hV
    have HFb : Hid (Box wc (w.heap.size + 1 + 1) #[.int .i64 ar, .int .i64 lo, .slice Ac c.length capc]) := hF
    have Hb : Hid (Below w.heap.size w wc) := hb
    clear hB hV hF hb
    cases fm with
    | false =>
      have HF : Hid (FuncIs p f 0 1) := FuncIs.form Hform.out
      clear hfm
      obtain ⟨r0, q0⟩ := HV.out.int 0 (by simp)
      obtain ⟨r1, q1⟩ := HV.out.int 1 (by simp)
      obtain ⟨r2, q2⟩ := HV.out.int 2 (by simp)
      have rz := HV.out.1
      simp at r0 r1 r2
      go_wp2_with fail
      have HZ : Hid (VRow (((wc.setCell ⟨w.heap.size + 1, 0, none⟩ (.int .i64 f)).setCell ⟨w.heap.size + 1, 1, none⟩ (.int .i64 0)).setCell ⟨w.heap.size + 1, 2, none⟩ (.int .i64 1)) (w.heap.size + 1) (ints [f, 0, 1])) := HV.out.put3 _ _ _
      exact bodyPost_ret (v := .agg #[.int .i64 f, .int .i64 0, .int .i64 1]) (by simp [results, Tryz.results138, go_sem, HZ.out.at0, HZ.out.at1, HZ.out.at2]) rfl
        ⟨f, 0, 1, rfl, below_put3 Hb.out _ _ _ (by omega), fun h => by omega, fun _ => rfl, HF.out⟩
    | true =>
      have hn1 : 1 ≤ c.length ∧ c.length ≤ 60 := by have := of_decide_eq_true hfm.symm; omega
      clear hfm
      have Hc : Hid (c = (fnAt p f).code) := by rw [Hfn.out]; exact Hcf.out
      go_wp2_with fail
      go_loopg [6] (c.length) (fun g i wr => ∃ k : Nat, k ≤ c.length ∧ i = .int .i64 k ∧ c.length ≤ k + g ∧ Box wr w.heap.size #[.slice (some ⟨b0, off0, none⟩) p.length cap] ∧ VRow wr (w.heap.size + 1) (ints [0, 0, 0]) ∧ Box wr (w.heap.size + 1 + 1) #[.int .i64 ar, .int .i64 lo, .slice Ac c.length capc] ∧ Below w.heap.size w wr ∧ ∀ j, j < k → rightM p f (insAt c j).1 (insAt c j).2 = true)
      case atStart => exact ⟨0, Nat.zero_le _, rfl, by omega, HB.out, HV.out, HFb.out, Hb.out, fun j h => by omega⟩
      case round =>
        clear HB HV HFb Hb
        obtain ⟨k, hk, rfl, hkg, hB, hV, hF, hb, hall⟩ := hrel
        have HB : Hid (Box wr w.heap.size #[.slice (some ⟨b0, off0, none⟩) p.length cap]) := hB
        have HV : Hid (VRow wr (w.heap.size + 1) (ints [0, 0, 0])) := hV
        have HFb : Hid (Box wr (w.heap.size + 1 + 1) #[.int .i64 ar, .int .i64 lo, .slice Ac c.length capc]) := hF
        have Hb : Hid (Below w.heap.size w wr) := hb
        have Hall : Hid (∀ j, j < k → rightM p f (insAt c j).1 (insAt c j).2 = true) := hall
        have c0 := hB.at0
        have cz := hB.1
        have f2 := hF.at2
        have fz := hF.1
        clear hB hV hF hb hall
        by_cases hkl : k < c.length
        · obtain ⟨bc, offc, rfl, hltc, d0, d1⟩ := (Hx.out.below Hb.out).at k hkl
          obtain ⟨op, a, hop⟩ : ∃ op a, insAt c k = (op, a) := ⟨_, _, rfl⟩
          have hcK : c[k] = (op, a) := by rw [← hop, insAt_getS c k hkl]
          rw [hcK] at d0 d1
          have Hop : Hid (insAt c k = (op, a)) := hop
          clear hop hcK
          go_upto_region 7 with fail
          go_cut [63] from 48 to 66 (fun y wd => y = .bool (!rightM p f op a) ∧ Below wr.heap.size wr wd)
          case first =>
            have HP : Hid (∀ wP, Below wr.heap.size wr wP → wP.cell? ⟨w.heap.size, 0, none⟩ = some (.slice (some ⟨b0, off0, none⟩) p.length cap) ∧ wP.cell? ⟨w.heap.size + 1 + 1, 2, none⟩ = some (.slice (some ⟨bc, offc, none⟩) c.length capc) ∧ wP.cell? ⟨bc, offc + k * 2, none⟩ = some (.int .i64 op) ∧ wP.cell? ⟨bc, offc + k * 2 + 1, none⟩ = some (.int .i64 a)) := fun wP hb =>
              ⟨(HB.out.below hb).at0, (HFb.out.below hb).at2, by rw [hb.cell (by exact hltc)]; exact d0, by rw [hb.cell (by exact hltc)]; exact d1⟩
            obtain ⟨q0, q1, q2, q3⟩ := HP.out wr.drew (Below.refl _ _).drew
            go_region_held3 (fun w' => w'.cell? ⟨w.heap.size, 0, none⟩ = some (.slice (some ⟨b0, off0, none⟩) p.length cap) ∧ w'.cell? ⟨w.heap.size + 1 + 1, 2, none⟩ = some (.slice (some ⟨bc, offc, none⟩) c.length capc) ∧ w'.cell? ⟨bc, offc + k * 2, none⟩ = some (.int .i64 op) ∧ w'.cell? ⟨bc, offc + k * 2 + 1, none⟩ = some (.int .i64 a))
              (first | (exact ⟨q0, q1, q2, q3⟩) | (exact ⟨y0, y1, y2, y3⟩))
              (first | (go_at_call 147; refine (specRight _ p f op a _ ((Hr.out.below Hb.out).below (Below.refl _ _).drew)).mono ?_; rintro e wP ⟨rfl, hbP⟩
                        have hbP' := (Below.refl wr.heap.size wr).drew.trans hbP
                        obtain ⟨y0, y1, y2, y3⟩ := HP.out wP hbP'))
            all_goals
              go_wp2_with fail
              go_meet
              exact ⟨rfl, hbP'⟩
          case rest =>
            obtain ⟨rfl, hb2⟩ := hcut
            have HB2 : Hid (Box wc w.heap.size #[.slice (some ⟨b0, off0, none⟩) p.length cap]) := HB.out.below hb2
            have HV2 : Hid (VRow wc (w.heap.size + 1) (ints [0, 0, 0])) := HV.out.below hb2
            have HF2 : Hid (Box wc (w.heap.size + 1 + 1) #[.int .i64 ar, .int .i64 lo, .slice (some ⟨bc, offc, none⟩) c.length capc]) := HFb.out.below hb2
            have Hb2 : Hid (Below w.heap.size w wc) := Hb.out.trans (hb2.mono Hb.out.size)
            clear hb2 d0 d1 c0 cz f2 fz HB HV HFb
            by_cases hrt : rightM p f op a = true
            · rw [hrt]
              have Hrt : Hid (rightM p f (insAt c k).1 (insAt c k).2 = true) := by rw [Hop.out]; exact hrt
              clear hrt
              go_wp2_with fail
              go_roundg (gk - 1)
              case measure => omega
              case rel => exact ⟨k + 1, by omega, by go_num, by omega, HB2.out, HV2.out, HF2.out, Hb2.out, fun j hj => if e : j = k then by subst e; exact Hrt.out else Hall.out j (by omega)⟩
            · have hrt' : rightM p f op a = false := by simpa using hrt
              rw [hrt']
              have HF : Hid (FuncIs p f k 1) := FuncIs.ins (p := p) (f := f) k Hform.out (by rw [← Hc.out]; exact hkl) (by rw [← Hc.out, Hop.out]; exact hrt') (fun j hj => by rw [← Hc.out]; exact Hall.out j hj)
              clear hrt hrt'
              obtain ⟨r0, q0⟩ := HV2.out.int 0 (by simp)
              obtain ⟨r1, q1⟩ := HV2.out.int 1 (by simp)
              obtain ⟨r2, q2⟩ := HV2.out.int 2 (by simp)
              have rz := HV2.out.1
              simp at r0 r1 r2
              go_wp2_with fail
              have HZ : Hid (VRow (((wc.setCell ⟨w.heap.size + 1, 0, none⟩ (.int .i64 f)).setCell ⟨w.heap.size + 1, 1, none⟩ (.int .i64 k)).setCell ⟨w.heap.size + 1, 2, none⟩ (.int .i64 1)) (w.heap.size + 1) (ints [f, k, 1])) := HV2.out.put3 _ _ _
              exact bodyPost_ret (v := .agg #[.int .i64 f, .int .i64 k, .int .i64 1]) (by simp [results, Tryz.results138, go_sem, HZ.out.at0, HZ.out.at1, HZ.out.at2]) rfl
                ⟨f, k, 1, rfl, below_put3 Hb2.out _ _ _ (by omega), fun h => by omega, fun _ => rfl, HF.out⟩
        · have HA : Hid (∀ j, j < c.length → rightM p f (insAt c j).1 (insAt c j).2 = true) := fun j hj => Hall.out j (by omega)
          have hfi := specHeights (.slice (some ⟨b0, off0, none⟩) p.length cap) p f wr (Hr.out.below Hb.out) Hp.out hf (by rw [← Hcf.out]; exact hn1.1) (by rw [← Hcf.out]; exact hn1.2)
            (by rw [← Hcf.out]; exact goesTo_range (p := p) (f := f) Hc.out HA.out)
          rw [← Hcf.out] at hfi
          have Hfi : Hid (Calls Tryz.prog 50 #[.agg #[.slice (some ⟨b0, off0, none⟩) p.length cap], .int .i64 f] wr fun e w' => HTold p c f wr w' e) := hfi
          clear hfi
          go_wp2_with fail
          refine Calls.mono (R := fun e w' => HTold p c f wr w' e) Hfi.out ?_
          rintro e w2 ⟨bh, caph, F, A, C, rfl, _, hb2, hcase⟩
          have HV2 : Hid (VRow w2 (w.heap.size + 1) (ints [0, 0, 0])) := HV.out.below hb2
          have Hb2 : Hid (Below w.heap.size w w2) := Hb.out.trans (hb2.mono Hb.out.size)
          have HF : Hid ((C = 0 → F = 0 ∧ A = 0) ∧ (C ≠ 0 → F = f) ∧ FuncIs p f A C) := by
            rcases hcase with ⟨rfl, rfl, rfl, hs, hrun, _⟩ | ⟨rfl, a, rfl, hrun⟩
            · exact ⟨fun _ => ⟨rfl, rfl⟩, fun h => absurd rfl h, FuncIs.ok hs Hform.out (by rw [← Hc.out]; exact HA.out) (by rw [← Hc.out]; exact hrun)⟩
            · refine ⟨fun h => ?_, fun _ => rfl, FuncIs.fault a C Hform.out (by rw [← Hc.out]; exact HA.out) (by rw [← Hc.out]; exact hrun)⟩
              rcases hrun.code a C rfl with h' | h' <;> omega
          clear hb2 hcase c0 cz f2 fz HB HV HFb Hfi
          obtain ⟨r0, q0⟩ := HV2.out.int 0 (by simp)
          obtain ⟨r1, q1⟩ := HV2.out.int 1 (by simp)
          obtain ⟨r2, q2⟩ := HV2.out.int 2 (by simp)
          have rz := HV2.out.1
          simp at r0 r1 r2
          go_wp2_with fail
          have HZ : Hid (VRow ((((w2.setCell ⟨w.heap.size + 1, 0, none⟩ (.int .i64 F)).setCell ⟨w.heap.size + 1, 1, none⟩ (.int .i64 A)).setCell ⟨w.heap.size + 1, 2, none⟩ (.int .i64 C)).alloc (.cells #[.int .i64 F, .int .i64 A, .int .i64 C] 108)) (w.heap.size + 1) (ints [F, A, C])) := (HV2.out.put3 _ _ _).below ((Below.refl _ _).alloc (Nat.le_refl _) _)
          have hbz := below_put3 (g := w.heap.size + 1) Hb2.out (.int .i64 F) (.int .i64 A) (.int .i64 C) (by omega)
          exact bodyPost_ret (v := .agg #[.int .i64 F, .int .i64 A, .int .i64 C]) (by simp [results, Tryz.results138, go_sem, HZ.out.at0, HZ.out.at1, HZ.out.at2]) rfl
            ⟨F, A, C, rfl, hbz.alloc hbz.size _, HF.out⟩
end Go.Proofs.YtijgonjnmibifaaGreatDoor
