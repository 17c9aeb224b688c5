/- impl.useOf: what is read and written, and where it goes on to, place by place. -/
import Derived.Test.YtljhoplcfoiiiaaDoorUseA
namespace Go.Proofs.YtljhoplcfoiiiaaDoor
open Go.RowKit

set_option maxRecDepth 100000 in
set_option maxHeartbeats 6400000 in
theorem implUse (v : Value) (p : List FnM) (f : Nat) (w : World) (ht : Tab w) (hr : FnRow 0 w v p) (hright : RightP p) (hf : f < p.length) (L : Nat) (hL : (fnAt p f).locals = L) (hs : List Int)
    (hrun : HRun p (fnAt p f).code (startH (fnAt p f).code.length) (.inl hs)) :
    Calls Tryd.prog 24 #[.agg #[v], .int .i64 f] w fun e w' => UseTold p (fnAt p f).code L hs w w' e := by
  have hF := (hright.fun8 f hf hrun).2
  rw [hL, Int.toNat_natCast] at hF
  have Hr : Hid (FnRow 0 w v p) := hr
  have Ht : Hid (Tab w) := ht
  obtain ⟨A, cap, rfl⟩ := hr.form
  obtain ⟨b0, off0, x, rfl, hlt0, e0, e1, e2, hx⟩ := hr.at f hf
  have hfn := fnAt_nat p f hf
  have hargs : ArgsUp p := fun g hg => by have := hright.args g hg; omega
  obtain ⟨_, hall, _⟩ := ((hright.all).2.2 f hf).well rfl
  obtain ⟨c, hc⟩ : ∃ c, c = p[f].code := ⟨_, rfl⟩
  obtain ⟨ar, har⟩ : ∃ c, c = p[f].args := ⟨_, rfl⟩
  have hcf : (fnAt p f).code = c := by rw [hfn, hc]
  have hlo : p[f].locals = (L : Int) := by rw [← hfn]; exact hL
  rw [← hc] at hx
  rw [← har] at e0
  rw [hlo] at e1
  rw [hcf] at hF hrun hall ⊢
  have hfi := fun (W : World) (a : Tab W) (b : FnRow 0 W (.slice (some ⟨b0, off0, none⟩) p.length cap) p) => implFind (.slice (some ⟨b0, off0, none⟩) p.length cap) p f W a b hf (by rw [← hc]; exact hF.one) (by rw [← hc]; exact hF.top) (by rw [← hc]; exact goesTo_range (p := p) (f := f) hcf.symm hall)
  rw [← hc] at hfi
  have Hfi : Hid (∀ W, Tab W → FnRow 0 W (.slice (some ⟨b0, off0, none⟩) p.length cap) p → Calls Tryd.prog 46 #[.agg #[.slice (some ⟨b0, off0, none⟩) p.length cap], .int .i64 f] W fun e w' => FoundIs p c W w' e) := hfi
  have HF : Hid (Fun8 p c L hs) := hF
  have Hrun : Hid (HRun p c (startH c.length) (.inl hs)) := hrun
  have Hargs : Hid (ArgsUp p) := hargs
  have Hx : Hid (InsRow 0 w x c) := hx
  obtain ⟨Ac, capc, rfl⟩ := hx.form
  obtain ⟨n, Hn⟩ : ∃ n, Hid (n = c.length) := ⟨_, rfl⟩
  have hn1 : 1 ≤ n := by rw [Hn.out]; exact hF.one
  have hn2 : n ≤ 60 := by rw [Hn.out]; exact hF.top
  have hl8 := hF.l8
  rw [← Hn.out] at e2 Hx
  clear hr ht hx hc har hlo hfn hcf hF hrun hall hfi hargs hright hL
  obtain ⟨i0, hi, hz0, hz1, hz2⟩ := info_parts Tryd.info64
  obtain ⟨j0, hj, hy0, hy1, hy2⟩ := info_parts Tryd.infoS
  have hmk := fun (W : World) => run_makeSlice (P := Tryd.prog) W 28 2 i0 _ Tryd.underlying28 hi hz0 .i64 .i64 n n (by omega) (by omega) (by rw [hz1]; simp; omega) (by rw [hz2]; omega) (by omega)
  have hmg := fun (W : World) => run_makeSlice (P := Tryd.prog) W 49 28 j0 _ Tryd.underlying49 hj hy0 .i64 .i64 n n (by omega) (by omega) (by rw [hy1]; simp; omega) (by rw [hy2]; omega) (by omega)
  go_enter Tryd.func24, Tryd.ntmps24
  go_upto_region 3 with fail
  go_cut [7] (fun x wd => UseNew w wd (.slice (some ⟨b0, off0, none⟩) p.length cap) [.int .i64 ar, .int .i64 L, .slice Ac n capc] n x)
  case first =>
    go_region
    all_goals
      go_wp2_with fail
      go_meet
      exact ⟨_, _, _, _, rfl, ⟨by first | (refine (vnew _ _ _ _ _ ?_ rfl).drewn; simp; done) | (refine ((vnew _ _ _ _ _ ?_ rfl).up _).drewn; simp; done) | (refine (((vnew _ _ _ _ _ ?_ rfl).up _).up _).drewn; simp; done) | (refine ((((vnew _ _ _ _ _ ?_ rfl).up _).up _).up _).drewn; simp; done),
        by first | (refine (vnew _ _ _ _ _ ?_ rfl).drewn; simp; done) | (refine ((vnew _ _ _ _ _ ?_ rfl).up _).drewn; simp; done) | (refine (((vnew _ _ _ _ _ ?_ rfl).up _).up _).drewn; simp; done) | (refine ((((vnew _ _ _ _ _ ?_ rfl).up _).up _).up _).drewn; simp; done),
        by first | (refine (vnew _ _ _ _ _ ?_ rfl).drewn; simp; done) | (refine ((vnew _ _ _ _ _ ?_ rfl).up _).drewn; simp; done) | (refine (((vnew _ _ _ _ _ ?_ rfl).up _).up _).drewn; simp; done) | (refine ((((vnew _ _ _ _ _ ?_ rfl).up _).up _).up _).drewn; simp; done),
        by first | (refine (vnew _ _ _ _ _ ?_ rfl).drewn; simp; done) | (refine ((vnew _ _ _ _ _ ?_ rfl).up _).drewn; simp; done) | (refine (((vnew _ _ _ _ _ ?_ rfl).up _).up _).drewn; simp; done) | (refine ((((vnew _ _ _ _ _ ?_ rfl).up _).up _).up _).drewn; simp; done),
        by omega,
        (((((((vnew _ _ _ _ _ rfl rfl).up _).up _).up _).up _).up _).up _).drewn,
        ((((((vnew _ _ _ _ _ (by simp; done) rfl).up _).up _).up _).up _).up _).drewn,
        (((((vnew _ _ _ _ _ (by simp; done) rfl).up _).up _).up _).up _).drewn, below7 _ _ _ _ _ _ _ _, by simp⟩⟩
  case rest =>
    obtain ⟨M, rb, wb, gb, rfl, hN⟩ := hcut
    clear hmk hmg hi hz0 hz1 hz2 hj hy0 hy1 hy2 i0 j0 e0 e1 e2
    have hN2 := hN.rd
    have hN3 := hN.wr
    have hN4 := hN.gs
    rw [toList_madeCells_one] at hN2 hN3 hN4
    have hrep : List.replicate n (Value.int .i64 0) = ints (nats (List.replicate n 0)) := by simp [ints, nats]
    rw [hrep] at hN2 hN3
    have HU : Hid (UseS w wc (.slice (some ⟨b0, off0, none⟩) p.length cap) [.int .i64 ar, .int .i64 L, .slice Ac n capc] n M rb wb gb (List.replicate n 0) (List.replicate n 0) (List.replicate n (.slice none 0 0))) :=
      ⟨hN.use, hN2, hN3, hN4, hN.far, hN.prog, hN.res, hN.fn, hN.bel, by rw [hN.size]; omega⟩
    clear hN hN2 hN3 hN4 hrep
    have c0 := HU.out.prog.at0
    have cz := HU.out.prog.1
    go_wp2_with fail
    refine Calls.mono (Hfi.out _ (Ht.out.below HU.out.bel) (Hr.out.below HU.out.bel)) ?_
    rintro e w2 ⟨Bm, at', code, rfl, hb2, hcase⟩
    have HU2 : Hid (UseS w w2 (.slice (some ⟨b0, off0, none⟩) p.length cap) [.int .i64 ar, .int .i64 L, .slice Ac n capc] n M rb wb gb (List.replicate n 0) (List.replicate n 0) (List.replicate n (.slice none 0 0))) := HU.out.below hb2
    rcases hcase with ⟨rfl, s, hok, hM, hru⟩ | ⟨_, a, _, hru⟩
    · have hes : (hsOf c.length s).h = hs := by
        have := ((hru Hargs.out).1).unique Hrun.out
        simpa using this
      have Hes : Hid ((hsOf c.length s).h = hs ∧ HUp s ∧ s.m.length = n) := ⟨hes, (hru Hargs.out).2, by rw [Hn.out]; exact hok.len⟩
      have hml : s.m.length = n := Hes.out.2.2
      have HM : Hid (MapH w2 Bm s.m) := hM
      have Hne : Hid (Bm ≠ rb ∧ Bm ≠ wb ∧ Bm ≠ gb) := by
        have q1 := HU2.out.rd
        have q2 := HU2.out.wt
        have q3 := HU2.out.gs
        obtain ⟨n', rfl⟩ : ∃ n', n = n' + 1 := ⟨n - 1, by omega⟩
        exact ⟨hM.ne q1, hM.ne q2, hM.ne q3⟩
      clear hb2 hok hM hru hes HU c0 cz
      have f0 := HU2.out.fn.1
      have f1 := (HU2.out.fn.2 2 (by simp)).1
      simp only [List.getElem_cons_succ, List.getElem_cons_zero] at f1
      go_wp2_with fail
      clear f0 f1
      go_loopg [40] n (fun g i wr => ∃ q : Nat, q ≤ n ∧ i = .int .i64 q ∧ n ≤ q + g ∧ MapH wr Bm s.m ∧ ∃ gs, UseS w wr (.slice (some ⟨b0, off0, none⟩) p.length cap) [.int .i64 ar, .int .i64 L, .slice Ac n capc] n M rb wb gb (tabN n q (rdM p c L hs)) (tabN n q (wrI p c L hs)) gs ∧ RowsTo (w.heap.size + 7) wr n q (nxM c hs) gs)
      case atStart => exact ⟨0, Nat.zero_le _, rfl, by omega, HM.out, _, by rw [tabN_none, tabN_none]; exact HU2.out, RowsTo.fresh _ _ _ _⟩
      case round =>
        clear HM HU2
        obtain ⟨q, hq, rfl, hqg, hM, gs, hU, hR⟩ := hrel
        have HM : Hid (MapH wr Bm s.m) := hM
        have HU : Hid (UseS w wr (.slice (some ⟨b0, off0, none⟩) p.length cap) [.int .i64 ar, .int .i64 L, .slice Ac n capc] n M rb wb gb (tabN n q (rdM p c L hs)) (tabN n q (wrI p c L hs)) gs) := hU
        have HR : Hid (RowsTo (w.heap.size + 7) wr n q (nxM c hs) gs) := hR
        clear hM hU hR
        by_cases hql : q < n
        · have hqc : q < c.length := by rw [← Hn.out]; exact hql
          obtain ⟨bc, offc, rfl, hltc, k0, k1⟩ := (Hx.out.below HU.out.bel).at q hqc
          obtain ⟨op, Hop⟩ : ∃ x : Int, Hid (x = (c[q]'hqc).1) := ⟨_, rfl⟩
          obtain ⟨a, Ha⟩ : ∃ x : Int, Hid (x = (c[q]'hqc).2) := ⟨_, rfl⟩
          rw [← Hop.out] at k0
          rw [← Ha.out] at k1
          have hins : insAt c q = (op, a) := by rw [insAt_get c q hqc, Hop.out, Ha.out]
          have Hins : Hid (insAt c q = (op, a)) := hins
          have hal : Below wr.heap.size wr (wr.alloc (.cells #[.int .i64 op, .int .i64 a] 65)) := (Below.refl _ _).alloc (Nat.le_refl _) _
          obtain ⟨hlook, _⟩ := (HM.out.below hal).look (by omega) q (by omega)
          have hg := hsOf_get (n := c.length) (by rw [← Hn.out]; exact hml) q hqc
          rw [Hes.out.1] at hg
          have Hg : Hid (hs.getD q 0 = (s.m.getD q none).getD (-1)) := hg
          have HBi : Hid (Box (wr.alloc (.cells #[.int .i64 op, .int .i64 a] 65)) wr.heap.size #[.int .i64 op, .int .i64 a]) := box_new _ _ _
          have HU1 : Hid (UseS w (wr.alloc (.cells #[.int .i64 op, .int .i64 a] 65)) (.slice (some ⟨b0, off0, none⟩) p.length cap) [.int .i64 ar, .int .i64 L, .slice (some ⟨bc, offc, none⟩) n capc] n M rb wb gb (tabN n q (rdM p c L hs)) (tabN n q (wrI p c L hs)) gs) := HU.out.below hal
          have HM1 : Hid (MapH (wr.alloc (.cells #[.int .i64 op, .int .i64 a] 65)) Bm s.m) := HM.out.below hal
          have HR1 : Hid (RowsTo (w.heap.size + 7) (wr.alloc (.cells #[.int .i64 op, .int .i64 a] 65)) n q (nxM c hs) gs) := HR.out.below hal
          obtain ⟨W, HW⟩ : ∃ W, Hid (W = wr.alloc (.cells #[.int .i64 op, .int .i64 a] 65)) := ⟨_, rfl⟩
          clear hg hal hins
          cases hm : s.m.getD q none with
          | none =>
            rw [hm] at hlook Hg
            have hneg : ¬ 0 ≤ hs.getD q 0 := by rw [Hg.out]; simp
            have h1 : rdM p c L hs q = 0 := if_neg hneg
            have h2 : wrI p c L hs q = 0 := if_neg hneg
            have h3 : nxM c hs q = [] := if_neg hneg
            have HU3 : Hid (UseS w (wr.alloc (.cells #[.int .i64 op, .int .i64 a] 65)) (.slice (some ⟨b0, off0, none⟩) p.length cap) [.int .i64 ar, .int .i64 L, .slice (some ⟨bc, offc, none⟩) n capc] n M rb wb gb (tabN n (q + 1) (rdM p c L hs)) (tabN n (q + 1) (wrI p c L hs)) gs) := by
              have := HU1.out
              rw [← tabN_skip n q _ h1, ← tabN_skip n q _ h2] at this
              exact this
            have HR3 : Hid (RowsTo (w.heap.size + 7) (wr.alloc (.cells #[.int .i64 op, .int .i64 a] 65)) n (q + 1) (nxM c hs) gs) := HR1.out.skip h3
            clear h1 h2 h3 hneg hm
            simp only [Option.getD_none, Option.isSome_none] at hlook
            go_wp2_with fail
            go_roundg (gk - 1)
            case measure => omega
            case rel => exact ⟨q + 1, by omega, by go_num, by omega, HM1.out, gs, HU3.out, HR3.out⟩
          | some h =>
            rw [hm] at hlook Hg
            have hup := Hes.out.2.1 q h hm
            obtain ⟨hh, rfl⟩ := Int.eq_ofNat_of_zero_le hup.1
            have hgq : hs.getD q 0 = (hh : Int) := Hg.out
            have hge : 0 ≤ hs.getD q 0 := by rw [hgq]; omega
            have hh8 : hh ≤ 8 := by omega
            have HRW : Hid (∀ W, Tab W → FnRow 0 W (.slice (some ⟨b0, off0, none⟩) p.length cap) p → Calls Tryd.prog 47 #[.agg #[.slice (some ⟨b0, off0, none⟩) p.length cap], .int .i64 (L : Int), .agg #[.int .i64 op, .int .i64 a], .int .i64 (hh : Int)] W fun e w' =>
                e = .returned (.tuple #[.int .i64 ((rdM p c L hs q : Nat) : Int), .int .i64 ((wrI p c L hs q : Nat) : Int)]) ∧ Below W.heap.size W w') := fun W hW1 hW2 => by
              have t0 := HF.out.takes q hqc hge
              have u0 := HF.out.puts q hqc hge
              obtain ⟨i1, i2, i3, i4⟩ := HF.out.lo_hi hqc hge
              have hsl := HF.out.slot q hqc
              have hup' : upM p c L hs q = loM p c L hs q + (putsM (insAt c q).1).toNat := rfl
              have hhi' : hiM L hs q = (L + hs.getD q 0).toNat := rfl
              have hlo' : loM p c L hs q = (L + hs.getD q 0 - takesM p (insAt c q).1 (insAt c q).2).toNat := rfl
              have hrd : rdM p c L hs q = rdOf (insAt c q).1 (insAt c q).2 (loM p c L hs q) (hiM L hs q) := if_pos hge
              have hwr : wrI p c L hs q = wrOf (insAt c q).1 (insAt c q).2 (loM p c L hs q) (hiM L hs q) (upM p c L hs q) := if_pos hge
              rw [Hins.out] at t0 u0 hsl hup' hlo' hrd hwr
              rw [hgq] at t0 u0 hhi' hlo'
              simp only at t0 u0 hsl hup' hlo' hrd hwr
              obtain ⟨t, ht⟩ := Int.eq_ofNat_of_zero_le t0.1
              obtain ⟨u, hu⟩ := Int.eq_ofNat_of_zero_le u0.1
              rw [ht] at t0 u0 hlo'
              rw [hu] at u0 hup'
              rw [hrd, hwr]
              exact implRW _ p op a L hh t u _ _ _ W hW1 hW2 ht hu (by omega) (by omega) (by omega) i2 i3 (fun h => by have := hsl h; omega)
            have hnx : nxM c hs q = goesTo q (op, a) := by rw [← Hins.out]; exact if_pos hge
            have Hnx : Hid (nxM c hs q = goesTo q (op, a)) := hnx
            obtain ⟨r, Hrq⟩ : ∃ r : Nat, Hid (r = rdM p c L hs q) := ⟨_, rfl⟩
            obtain ⟨z, Hzq⟩ : ∃ z : Nat, Hid (z = wrI p c L hs q) := ⟨_, rfl⟩
            rw [← Hrq.out, ← Hzq.out] at HRW
            rw [← HW.out] at HBi HU1 HM1 HR1
            have hsz : wr.heap.size < W.heap.size := HBi.out.1
            have Hsz : Hid (w.heap.size + 7 ≤ wr.heap.size) := HU.out.size
            clear hm hup hgq hge hnx hsz HU HM HR
            simp only [Option.getD_some, Option.isSome_some] at hlook
            go_upto_region 10 with fail
            go_cut [40] from 40 to 77 (fun x wd => x = .int .i64 q ∧ MapH wd Bm s.m ∧ UseS w wd (.slice (some ⟨b0, off0, none⟩) p.length cap) [.int .i64 ar, .int .i64 L, .slice (some ⟨bc, offc, none⟩) n capc] n M rb wb gb (tabN n (q + 1) (rdM p c L hs)) (tabN n (q + 1) (wrI p c L hs)) gs ∧ RowsTo (w.heap.size + 7) wd n q (nxM c hs) gs ∧ Box wd wr.heap.size #[.int .i64 op, .int .i64 a])
            case first =>
              rw [← HW.out]
              clear hlook
              have HS1 : Hid (∀ wP, Below W.heap.size W wP → wP.cell? ⟨M, 0, none⟩ = some (.slice (some ⟨rb, 0, none⟩) n n) ∧ wP.cell? ⟨M, 1, none⟩ = some (.slice (some ⟨wb, 0, none⟩) n n) ∧ wP.cell? ⟨w.heap.size, 0, none⟩ = some (.slice (some ⟨b0, off0, none⟩) p.length cap) ∧ wP.cell? ⟨w.heap.size + 1 + 1, 1, none⟩ = some (.int .i64 L) ∧ wP.cell? ⟨wr.heap.size, 0, none⟩ = some (.int .i64 op) ∧ wP.cell? ⟨wr.heap.size, 1, none⟩ = some (.int .i64 a)) := fun wP hb => by
                have hS := HU1.out.below hb
                have hB := HBi.out.below hb
                exact ⟨hS.use.at0, hS.use.at1, hS.prog.at0, hS.fn.at1, hB.at0, hB.at1⟩
              have Hfar : Hid (_ ∧ _) := HU1.out.far
              have HU2 : Hid (∀ wP, Below W.heap.size W wP → UseS w (wP.setCell ⟨rb, q, none⟩ (.int .i64 (r : Int))) (.slice (some ⟨b0, off0, none⟩) p.length cap) [.int .i64 ar, .int .i64 L, .slice (some ⟨bc, offc, none⟩) n capc] n M rb wb gb ((tabN n q (rdM p c L hs)).set q r) (tabN n q (wrI p c L hs)) gs ∧ Box (wP.setCell ⟨rb, q, none⟩ (.int .i64 (r : Int))) wr.heap.size #[.int .i64 op, .int .i64 a]) := fun wP hb => by
                have hS := HU1.out.below hb
                have hB := HBi.out.below hb
                have := Hfar.out; have := Hsz.out
                exact ⟨hS.setR q r (by rw [tabN_length]; exact hql), hB.set_far _ _ (by show rb ≠ wr.heap.size; omega)⟩
              have HU3 : Hid (∀ wP, Below W.heap.size W wP → UseS w ((wP.setCell ⟨rb, q, none⟩ (.int .i64 (r : Int))).setCell ⟨wb, q, none⟩ (.int .i64 (z : Int))) (.slice (some ⟨b0, off0, none⟩) p.length cap) [.int .i64 ar, .int .i64 L, .slice (some ⟨bc, offc, none⟩) n capc] n M rb wb gb ((tabN n q (rdM p c L hs)).set q r) ((tabN n q (wrI p c L hs)).set q z) gs ∧ Box ((wP.setCell ⟨rb, q, none⟩ (.int .i64 (r : Int))).setCell ⟨wb, q, none⟩ (.int .i64 (z : Int))) wr.heap.size #[.int .i64 op, .int .i64 a]) := fun wP hb => by
                obtain ⟨hS, hB⟩ := HU2.out wP hb
                have := Hfar.out; have := Hsz.out
                exact ⟨hS.setW q z (by rw [tabN_length]; exact hql), hB.set_far _ _ (by show wb ≠ wr.heap.size; omega)⟩
              have HS2 : Hid (∀ wP, Below W.heap.size W wP → (wP.setCell ⟨rb, q, none⟩ (.int .i64 (r : Int))).cell? ⟨M, 0, none⟩ = some (.slice (some ⟨rb, 0, none⟩) n n) ∧ (wP.setCell ⟨rb, q, none⟩ (.int .i64 (r : Int))).cell? ⟨M, 1, none⟩ = some (.slice (some ⟨wb, 0, none⟩) n n) ∧ (wP.setCell ⟨rb, q, none⟩ (.int .i64 (r : Int))).cell? ⟨w.heap.size, 0, none⟩ = some (.slice (some ⟨b0, off0, none⟩) p.length cap) ∧ (wP.setCell ⟨rb, q, none⟩ (.int .i64 (r : Int))).cell? ⟨w.heap.size + 1 + 1, 1, none⟩ = some (.int .i64 L) ∧ (wP.setCell ⟨rb, q, none⟩ (.int .i64 (r : Int))).cell? ⟨wr.heap.size, 0, none⟩ = some (.int .i64 op) ∧ (wP.setCell ⟨rb, q, none⟩ (.int .i64 (r : Int))).cell? ⟨wr.heap.size, 1, none⟩ = some (.int .i64 a)) := fun wP hb => by
                obtain ⟨hS, hB⟩ := HU2.out wP hb
                exact ⟨hS.use.at0, hS.use.at1, hS.prog.at0, hS.fn.at1, hB.at0, hB.at1⟩
              have HS3 : Hid (∀ wP, Below W.heap.size W wP → ((wP.setCell ⟨rb, q, none⟩ (.int .i64 (r : Int))).setCell ⟨wb, q, none⟩ (.int .i64 (z : Int))).cell? ⟨M, 0, none⟩ = some (.slice (some ⟨rb, 0, none⟩) n n) ∧ ((wP.setCell ⟨rb, q, none⟩ (.int .i64 (r : Int))).setCell ⟨wb, q, none⟩ (.int .i64 (z : Int))).cell? ⟨M, 1, none⟩ = some (.slice (some ⟨wb, 0, none⟩) n n) ∧ ((wP.setCell ⟨rb, q, none⟩ (.int .i64 (r : Int))).setCell ⟨wb, q, none⟩ (.int .i64 (z : Int))).cell? ⟨w.heap.size, 0, none⟩ = some (.slice (some ⟨b0, off0, none⟩) p.length cap) ∧ ((wP.setCell ⟨rb, q, none⟩ (.int .i64 (r : Int))).setCell ⟨wb, q, none⟩ (.int .i64 (z : Int))).cell? ⟨w.heap.size + 1 + 1, 1, none⟩ = some (.int .i64 L) ∧ ((wP.setCell ⟨rb, q, none⟩ (.int .i64 (r : Int))).setCell ⟨wb, q, none⟩ (.int .i64 (z : Int))).cell? ⟨wr.heap.size, 0, none⟩ = some (.int .i64 op) ∧ ((wP.setCell ⟨rb, q, none⟩ (.int .i64 (r : Int))).setCell ⟨wb, q, none⟩ (.int .i64 (z : Int))).cell? ⟨wr.heap.size, 1, none⟩ = some (.int .i64 a)) := fun wP hb => by
                obtain ⟨hS, hB⟩ := HU3.out wP hb
                exact ⟨hS.use.at0, hS.use.at1, hS.prog.at0, hS.fn.at1, hB.at0, hB.at1⟩
              have HQ : Hid (∀ wP, Below W.heap.size W wP → ((∃ v, wP.cell? ⟨rb, q, none⟩ = some v) ∧ wP.frozen? ⟨rb, q, none⟩ = false ∧ (∃ v, (wP.setCell ⟨rb, q, none⟩ (.int .i64 (r : Int))).cell? ⟨wb, q, none⟩ = some v) ∧ wP.frozen? ⟨wb, q, none⟩ = false) ∧ rb < wP.heap.size ∧ wb < wP.heap.size) := fun wP hb => by
                have hS := HU1.out.below hb
                have h1 := hS.rd.2 q (by simp [ints, nats, tabN_length]; omega)
                have h2 := hS.wt.2 q (by simp [ints, nats, tabN_length]; omega)
                have h3 := (HU2.out wP hb).1.wt.2 q (by simp [ints, nats, tabN_length]; omega)
                exact ⟨⟨⟨_, h1.1⟩, h1.2, ⟨_, h3.1⟩, h2.2⟩, hS.rd.1, hS.wt.1⟩
              have HF : Hid (∀ wP, Below W.heap.size W wP → MapH ((wP.setCell ⟨rb, q, none⟩ (.int .i64 (r : Int))).setCell ⟨wb, q, none⟩ (.int .i64 (z : Int))) Bm s.m ∧ UseS w ((wP.setCell ⟨rb, q, none⟩ (.int .i64 (r : Int))).setCell ⟨wb, q, none⟩ (.int .i64 (z : Int))) (.slice (some ⟨b0, off0, none⟩) p.length cap) [.int .i64 ar, .int .i64 L, .slice (some ⟨bc, offc, none⟩) n capc] n M rb wb gb (tabN n (q + 1) (rdM p c L hs)) (tabN n (q + 1) (wrI p c L hs)) gs ∧ RowsTo (w.heap.size + 7) ((wP.setCell ⟨rb, q, none⟩ (.int .i64 (r : Int))).setCell ⟨wb, q, none⟩ (.int .i64 (z : Int))) n q (nxM c hs) gs ∧ Box ((wP.setCell ⟨rb, q, none⟩ (.int .i64 (r : Int))).setCell ⟨wb, q, none⟩ (.int .i64 (z : Int))) wr.heap.size #[.int .i64 op, .int .i64 a]) := fun wP hb => by
                obtain ⟨hS, hB⟩ := HU3.out wP hb
                have hf := Hfar.out
                have hne := Hne.out
                refine ⟨((HM1.out.below hb).setFar _ _ (by show Bm ≠ rb; omega)).setFar _ _ (by show Bm ≠ wb; omega), ?_, ((HR1.out.below hb).setLow _ (by show rb < _; omega) _).setLow _ (by show wb < _; omega) _, hB⟩
                rw [Hrq.out, Hzq.out, tabN_set, tabN_set] at hS
                rw [Hrq.out, Hzq.out]
                exact hS
              obtain ⟨q0, q1, q2, q3, q4, q5⟩ := HS1.out W.drew (Below.refl _ _).drew
              have hne1 : rb ≠ wb := by have := Hfar.out; omega
              have HTb : Hid (Tab W.drew) := (Ht.out.below HU1.out.bel).below (Below.refl _ _).drew
              have HFr : Hid (FnRow 0 W.drew (.slice (some ⟨b0, off0, none⟩) p.length cap) p) := (Hr.out.below HU1.out.bel).below (Below.refl _ _).drew
              go_region_held3 (fun w' => w'.cell? ⟨M, 0, none⟩ = some (.slice (some ⟨rb, 0, none⟩) n n) ∧ w'.cell? ⟨M, 1, none⟩ = some (.slice (some ⟨wb, 0, none⟩) n n) ∧ w'.cell? ⟨w.heap.size, 0, none⟩ = some (.slice (some ⟨b0, off0, none⟩) p.length cap) ∧ w'.cell? ⟨w.heap.size + 1 + 1, 1, none⟩ = some (.int .i64 L) ∧ w'.cell? ⟨wr.heap.size, 0, none⟩ = some (.int .i64 op) ∧ w'.cell? ⟨wr.heap.size, 1, none⟩ = some (.int .i64 a))
                (first | (exact ⟨q0, q1, q2, q3, q4, q5⟩) | (exact HY1.out) | (exact HY2.out) | (exact HY3.out))
                (first | (go_at_call 47; refine (HRW.out _ HTb.out HFr.out).mono ?_; rintro e wP ⟨rfl, hbP⟩
                          have hbP' := (Below.refl W.heap.size W).drew.trans hbP
                          have HY1 : Hid (_ ∧ _) := HS1.out wP hbP'
                          have HY2 : Hid (_ ∧ _) := HS2.out wP hbP'
                          have HY3 : Hid (_ ∧ _) := HS3.out wP hbP'
                          obtain ⟨⟨⟨vr, g0⟩, g1, ⟨vw, g2⟩, g3⟩, g4, g5⟩ := HQ.out wP hbP'))
              all_goals
                go_wp2_with fail
                go_meet
                exact ⟨rfl, HF.out wP hbP'⟩
            case rest =>
              obtain ⟨rfl, hM5, hU5, hR5, hB5⟩ := hcut
              clear HW HRW Hrq Hzq
              have HU5 : Hid (UseS w wc (.slice (some ⟨b0, off0, none⟩) p.length cap) [.int .i64 ar, .int .i64 L, .slice (some ⟨bc, offc, none⟩) n capc] n M rb wb gb (tabN n (q + 1) (rdM p c L hs)) (tabN n (q + 1) (wrI p c L hs)) (gs)) := hU5
              have HM5 : Hid (MapH wc Bm s.m) := hM5
              have HR5 : Hid (RowsTo (w.heap.size + 7) wc n q (nxM c hs) gs) := hR5
              have HB5 : Hid (Box wc wr.heap.size #[.int .i64 op, .int .i64 a]) := hB5
              have Hfar : Hid (_ ∧ _) := HU5.out.far
              have hgl : q < gs.length := by rw [hR5.1]; exact hql
              clear hM5 hU5 hR5 hB5 HU1 HM1 HR1 HBi
              have HF : Hid (∀ wP v, Below wc.heap.size wc wP → IRow wc.heap.size wP v (goesTo q (op, a)) → MapH (wP.setCell ⟨gb, q, none⟩ v) Bm s.m ∧ UseS w (wP.setCell ⟨gb, q, none⟩ v) (.slice (some ⟨b0, off0, none⟩) p.length cap) [.int .i64 ar, .int .i64 L, .slice (some ⟨bc, offc, none⟩) n capc] n M rb wb gb (tabN n (q + 1) (rdM p c L hs)) (tabN n (q + 1) (wrI p c L hs)) (gs.set q v) ∧ RowsTo (w.heap.size + 7) (wP.setCell ⟨gb, q, none⟩ v) n (q + 1) (nxM c hs) (gs.set q v) ∧ Box (wP.setCell ⟨gb, q, none⟩ v) wr.heap.size #[.int .i64 op, .int .i64 a]) := fun wP v hb hv => by
                have hf := Hfar.out
                have hne := Hne.out
                have hz := HU5.out.size
                have hz2 := Hsz.out
                refine ⟨(HM5.out.below hb).setFar _ _ (by show Bm ≠ gb; omega), (HU5.out.below hb).setG q v hgl, ?_, (HB5.out.below hb).set_far _ _ (by show gb ≠ wr.heap.size; omega)⟩
                refine RowsTo.put ((HR5.out.below hb).setLow _ (by show gb < _; omega) _) v ?_ hql
                rw [Hnx.out]
                exact (hv.lower hz).set (by show gb < _; omega) v
              have HS1 : Hid (∀ wP, Below wc.heap.size wc wP → wP.cell? ⟨M, 2, none⟩ = some (.slice (some ⟨gb, 0, none⟩) n n) ∧ wP.cell? ⟨wr.heap.size, 0, none⟩ = some (.int .i64 op) ∧ wP.cell? ⟨wr.heap.size, 1, none⟩ = some (.int .i64 a)) := fun wP hb => by
                have hS := HU5.out.below hb
                have hB := HB5.out.below hb
                exact ⟨hS.use.at2, hB.at0, hB.at1⟩
              have HS2 : Hid (∀ wP v, Below wc.heap.size wc wP → IRow wc.heap.size wP v (goesTo q (op, a)) → (wP.setCell ⟨gb, q, none⟩ v).cell? ⟨M, 2, none⟩ = some (.slice (some ⟨gb, 0, none⟩) n n) ∧ (wP.setCell ⟨gb, q, none⟩ v).cell? ⟨wr.heap.size, 0, none⟩ = some (.int .i64 op) ∧ (wP.setCell ⟨gb, q, none⟩ v).cell? ⟨wr.heap.size, 1, none⟩ = some (.int .i64 a)) := fun wP v hb hv => by
                obtain ⟨_, hS, _, hB⟩ := HF.out wP v hb hv
                exact ⟨hS.use.at2, hB.at0, hB.at1⟩
              have HQ : Hid (∀ wP, Below wc.heap.size wc wP → (∃ v, wP.cell? ⟨gb, q, none⟩ = some v) ∧ wP.frozen? ⟨gb, q, none⟩ = false ∧ gb < wP.heap.size ∧ M < wP.heap.size ∧ wr.heap.size < wP.heap.size) := fun wP hb => by
                have hS := HU5.out.below hb
                have h1 := hS.gs.2 q hgl
                exact ⟨⟨_, h1.1⟩, h1.2, hS.gs.1, hS.use.1, (HB5.out.below hb).1⟩
              have HPl : Hid (∀ W, Calls Tryd.prog 48 #[.agg #[.int .i64 op, .int .i64 a], .int .i64 q] W fun e w' => ∃ v, e = .returned v ∧ IRow W.heap.size w' v (goesTo q (op, a)) ∧ Below W.heap.size W w') := fun W => implPlaces q op a W (by omega)
              obtain ⟨q0, q1, q2⟩ := HS1.out wc.drew (Below.refl _ _).drew
              obtain ⟨_, _, _, z1, z2⟩ := HQ.out wc (Below.refl _ _)
              go_wp2_with fail
              go_region_held3 (fun w' => w'.cell? ⟨M, 2, none⟩ = some (.slice (some ⟨gb, 0, none⟩) n n) ∧ w'.cell? ⟨wr.heap.size, 0, none⟩ = some (.int .i64 op) ∧ w'.cell? ⟨wr.heap.size, 1, none⟩ = some (.int .i64 a))
                (first | (exact ⟨q0, q1, q2⟩) | (exact HY1.out) | (exact HY2.out))
                (first | (go_at_call 48; refine (HPl.out _).mono ?_; rintro e wP ⟨v, rfl, hv, hbP⟩
                          obtain ⟨A9, cap9, rfl⟩ := hv.form
                          have hbP' := (Below.refl wc.heap.size wc).drew.trans hbP
                          have HV : Hid (IRow wc.heap.size wP _ (goesTo q (op, a))) := hv
                          have HY1 : Hid (_ ∧ _) := HS1.out wP hbP'
                          have HY2 : Hid (_ ∧ _) := HS2.out wP _ hbP' HV.out
                          clear hv
                          obtain ⟨⟨vr, g0⟩, g1, g2, g3, g4⟩ := HQ.out wP hbP'))
              all_goals
                go_wp2_with fail
                go_roundg (gk - 1)
                case measure => omega
                case rel =>
                  obtain ⟨f1, f2, f3, _⟩ := HF.out wP _ hbP' HV.out
                  exact ⟨q + 1, by omega, by go_num, by omega, f1, _, f2, f3⟩
        · have hqn : q = n := by omega
          subst hqn
          clear hql hq
          have Hfar : Hid (_ ∧ _) := HU.out.far
          have d0 := HU.out.use.at0
          have d1 := HU.out.use.at1
          have d2 := HU.out.use.at2
          have dz := HU.out.use.1
          obtain ⟨r0, s0⟩ := HU.out.res.2 0 (by simp)
          obtain ⟨r1, s1⟩ := HU.out.res.2 1 (by simp)
          obtain ⟨r2, s2⟩ := HU.out.res.2 2 (by simp)
          have rz := HU.out.res.1
          simp only [List.getElem_cons_succ, List.getElem_cons_zero] at r0 r1 r2
          have HO : Hid (∀ x y z, VRow (((wr.setCell ⟨w.heap.size + 1, 0, none⟩ x).setCell ⟨w.heap.size + 1, 1, none⟩ y).setCell ⟨w.heap.size + 1, 2, none⟩ z) (w.heap.size + 1) [x, y, z]) := fun x y z => HU.out.res.put3 x y z
          go_wp2_with fail
          have HZ : Hid (VRow _ _ _) := HO.out (.slice (some ⟨rb, 0, none⟩) q q) (.slice (some ⟨wb, 0, none⟩) q q) (.slice (some ⟨gb, 0, none⟩) q q)
          refine bodyPost_ret (v := .agg #[.slice (some ⟨rb, 0, none⟩) q q, .slice (some ⟨wb, 0, none⟩) q q, .slice (some ⟨gb, 0, none⟩) q q]) (by simp [results, Tryd.results24, go_sem, HZ.out.at0, HZ.out.at1, HZ.out.at2]) rfl ?_
          have hf := Hfar.out
          have hcn := Hn.out
          refine ⟨rb, wb, gb, gs, by rw [← hcn], ?_, ?_, HU.out.gs.far3 _ _ _ (by omega), ?_, below_put3 HU.out.bel _ _ _ (by omega)⟩
          · rw [← hcn]; exact HU.out.rd.far3 _ _ _ (by omega)
          · rw [← hcn]; exact HU.out.wt.far3 _ _ _ (by omega)
          · rw [← hcn]
            have h3 := ((HR.out.setLow ⟨w.heap.size + 1, 0, none⟩ (by show w.heap.size + 1 < _; omega) (.slice (some ⟨rb, 0, none⟩) q q)).setLow ⟨w.heap.size + 1, 1, none⟩ (by show w.heap.size + 1 < _; omega) (.slice (some ⟨wb, 0, none⟩) q q)).setLow ⟨w.heap.size + 1, 2, none⟩ (by show w.heap.size + 1 < _; omega) (.slice (some ⟨gb, 0, none⟩) q q)
            exact ⟨h3.1, fun j hj => (h3.2 j hj).lower (Nat.zero_le _)⟩
    · have := (hru Hargs.out).unique Hrun.out
      cases this
end Go.Proofs.YtljhoplcfoiiiaaDoor
