/- spec.l04Heights: heights and the first fault. -/
import Derived.Test.YtijgonjnmibifaaGreatDoorSpecHd
namespace Go.Proofs.YtijgonjnmibifaaGreatDoor
open Go.RowKit

set_option maxRecDepth 100000 in
set_option maxHeartbeats 3200000 in
theorem specHeights (v : Value) (p : List FnM) (f : Nat) (w : World) (hr : FnRow 0 w v p) (hp : ∀ g ∈ p, g.ok) (hf : f < p.length) (hn1 : 1 ≤ p[f].code.length) (hn2 : p[f].code.length ≤ 60)
    (hto : ∀ j, j < p[f].code.length → ∀ t ∈ goesTo j (insAt p[f].code j), 0 ≤ t ∧ t ≤ p[f].code.length) :
    Calls Tryz.prog 50 #[.agg #[v], .int .i64 f] w fun e w' => HTold p p[f].code f w w' e := by
  have Hr : Hid (FnRow 0 w v p) := hr
  have Hp : Hid (∀ g ∈ p, g.ok) := hp
  have hlen := hr.len
  obtain ⟨A, cap, rfl⟩ := hr.form
  obtain ⟨b0, off0, x, rfl, hlt0, _, _, e2, hx⟩ := hr.at f hf
  clear hr hp
  obtain ⟨c, hc⟩ : ∃ c, c = p[f].code := ⟨_, rfl⟩
  rw [← hc] at hx hn1 hn2 hto ⊢
  clear hc
  have Hto : Hid (∀ j, j < c.length → ∀ t ∈ goesTo j (insAt c j), 0 ≤ t ∧ t ≤ c.length) := hto
  have Hx : Hid (InsRow 0 w x c) := hx
  obtain ⟨Ac, capc, rfl⟩ := hx.form
  clear hto hx
  obtain ⟨i0, hi, hz0, hz1, hz2⟩ := info_parts Tryz.info64
  have hmk := fun (W : World) => run_makeSlice (P := Tryz.prog) W 106 2 i0 _ Tryz.underlying106 hi hz0 .i64 .i64 c.length c.length (by omega) (by omega) (by rw [hz1]; simp; omega) (by rw [hz2]; omega) (by omega)
  obtain ⟨j0, hj, hy0, hy1, hy2⟩ := info_parts Tryz.infoB
  have hmb := fun (W : World) => run_makeSlice (P := Tryz.prog) W 143 4 j0 _ Tryz.underlying143 hj hy0 .i64 .i64 c.length c.length (by omega) (by omega) (by rw [hy1]; simp; omega) (by rw [hy2]; omega) (by omega)
  simp only [hz1, hy1, Int.toNat_natCast, Nat.mul_one] at hmk hmb
  have Hmb : Hid (∀ W : World, (Instr.makeSlice 143 (.int .i64 c.length) (.int .i64 c.length)).run Tryz.prog W = _) := hmb
  clear hmb
  go_enter Tryz.func50, Tryz.ntmps50
  go_wp2_with fail
  clear hmk
  go_loopw [8] (fun i wr => ∃ k : Nat, k ≤ c.length ∧ i = .int .i64 k ∧ Box wr w.heap.size #[.slice (some ⟨b0, off0, none⟩) p.length cap] ∧ VRow wr (w.heap.size + 1) (ints [0, 0, 0]) ∧ Below w.heap.size w wr ∧
      ∃ zs : List Int, zs.length = c.length ∧ VRow wr (w.heap.size + 1 + 1) (ints zs) ∧ wr.heap.size = w.heap.size + 1 + 1 + 1 ∧ ∀ j, j < k → zs.getD j 0 = -1) (fun i _ => c.length - (intOf i).toNat)
  case atStart =>
    obtain ⟨x0, x1, x2, x3, x4⟩ := three_new w #[.slice (some ⟨b0, off0, none⟩) p.length cap] #[.int .i64 0, .int .i64 0, .int .i64 0] (madeCells #[Value.int .i64 0] c.length) 34 108 2
    refine ⟨0, Nat.zero_le _, rfl, x0, x1, x3, List.replicate c.length 0, by simp, ?_, x4, fun j h => by omega⟩
    rw [toList_madeCells_one] at x2
    rw [ints_replicate]
    exact x2
  case round =>
    obtain ⟨k, hk, rfl, hB0, hR0, hb, zs, hzl, hZ, hsz, hmin⟩ := hrel
    by_cases hkl : k < c.length
    · obtain ⟨c0, f0⟩ := hZ.int k (by omega)
      have HB0 : Hid (Box wr w.heap.size #[.slice (some ⟨b0, off0, none⟩) p.length cap]) := hB0
      have HR0 : Hid (VRow wr (w.heap.size + 1) (ints [0, 0, 0])) := hR0
      have HZ : Hid (VRow wr (w.heap.size + 1 + 1) (ints zs)) := hZ
      have Hb : Hid (Below w.heap.size w wr) := hb
      have Hmin : Hid (∀ j, j < k → zs.getD j 0 = -1) := hmin
      clear hB0 hR0 hZ hb hmin
      go_wp2_with fail
      go_roundw
      case rel =>
        refine ⟨k + 1, by omega, by go_num, HB0.out.set_far _ _ (by show w.heap.size + 1 + 1 ≠ w.heap.size; omega), HR0.out.set_far _ _ (by show w.heap.size + 1 + 1 ≠ w.heap.size + 1; omega), Hb.out.setCell (by show w.heap.size ≤ w.heap.size + 1 + 1; omega) _, zs.set k (-1), by simpa using hzl, ?_, by simpa using hsz, fun j hj => ?_⟩
        · have := HZ.out.set_at k (.int .i64 (-1)) (by rw [ints_length]; omega)
          rwa [ints_set] at this
        · rw [getD_set _ _ _ _ _ (by omega)]
          split
          · rfl
          · exact Hmin.out j (by omega)
      case measure => simp [intOf]; omega
    · have hmb := Hmb.out
      have hZ' : zs = List.replicate c.length (-1) := by have := all_minus (zs := zs) (fun j hj => hmin j (by omega)); rwa [hzl] at this
      subst hZ'
      obtain ⟨c0, f0⟩ := hZ.int 0 (by simp; omega)
      have HS : Hid (SpH w ((wr.setCell ⟨w.heap.size + 1 + 1, 0, none⟩ (.int .i64 0)).alloc (.cells (madeCells #[.bool false] c.length) 4)) (.slice (some ⟨b0, off0, none⟩) p.length cap) ⟨(List.replicate c.length (-1)).set 0 0, List.replicate c.length false⟩) := by
        have y := vrow_new (wr.setCell ⟨w.heap.size + 1 + 1, 0, none⟩ (.int .i64 0)) (madeCells #[.bool false] c.length) 4
        rw [show (wr.setCell ⟨w.heap.size + 1 + 1, 0, none⟩ (.int .i64 0)).heap.size = w.heap.size + 1 + 1 + 1 by simpa using hsz, toList_madeCells_one, ← truths_replicate] at y
        have hZ1 := hZ.set_at 0 (.int .i64 0) (by rw [ints_length]; simp; omega)
        rw [ints_set] at hZ1
        have hbb : Below (wr.setCell ⟨w.heap.size + 1 + 1, 0, none⟩ (.int .i64 0)).heap.size (wr.setCell ⟨w.heap.size + 1 + 1, 0, none⟩ (.int .i64 0)) ((wr.setCell ⟨w.heap.size + 1 + 1, 0, none⟩ (.int .i64 0)).alloc (.cells (madeCells #[.bool false] c.length) 4)) := (Below.refl _ _).alloc (Nat.le_refl _) _
        exact ⟨(hB0.set_far _ _ (by show w.heap.size + 1 + 1 ≠ w.heap.size; omega)).below hbb, (hR0.set_far _ _ (by show w.heap.size + 1 + 1 ≠ w.heap.size + 1; omega)).below hbb, hZ1.below hbb, y, (hb.setCell (by show w.heap.size ≤ w.heap.size + 1 + 1; omega) _).trans (hbb.mono (by simp; omega))⟩
      clear hB0 hR0 hZ hb hmin
      go_upto_region 8 with fail
      go_cut [9] (fun x wd => x = .slice (some ⟨w.heap.size + 1 + 1 + 1, 0, none⟩) c.length c.length ∧ SpH w wd (.slice (some ⟨b0, off0, none⟩) p.length cap) ⟨(List.replicate c.length (-1)).set 0 0, List.replicate c.length false⟩)
      case first =>
        go_wp2_with fail
        go_meet
        exact ⟨rfl, HS.out⟩
      case rest =>
        obtain ⟨rfl, hS⟩ := hcut
        clear HS hmb c0 f0 hsz hkl
        obtain ⟨c0, f0⟩ := hS.ww.truth 0 (by simp; omega)
        have HS : Hid (SpH w wc (.slice (some ⟨b0, off0, none⟩) p.length cap) ⟨(List.replicate c.length (-1)).set 0 0, List.replicate c.length false⟩) := hS
        clear hS
        go_wp2_with fail
        go_loopg [] ((startH c.length).weight) (fun g wr => ∃ s, HOk c.length s ∧ SpH w wr (.slice (some ⟨b0, off0, none⟩) p.length cap) s ∧ s.weight ≤ g ∧ ∀ r, HRun p c s r → HRun p c (startH c.length) r)
        case atStart => exact ⟨startH c.length, start_hok hn1, HS.out.setW 0 true (by simp; omega), Nat.le_refl _, fun r h => h⟩
        case round =>
          clear HS c0 f0
          obtain ⟨s, hok, hS, hwg, hway⟩ := hrel
          have Hok : Hid (HOk c.length s) := hok
          have HS : Hid (SpH w wr (.slice (some ⟨b0, off0, none⟩) p.length cap) s) := hS
          have Hway : Hid (s.weight ≤ gk ∧ ∀ r, HRun p c s r → HRun p c (startH c.length) r) := ⟨hwg, hway⟩
          clear hok hS hwg hway
          go_wp2_with fail
          refine (specLeast _ _ _ s.wt _ HS.out.ww Hok.out.lw (by omega)).mono ?_
          rintro e w1 ⟨hw1, hcase⟩
          subst w1
          rcases hcase with ⟨rfl, hnone⟩ | ⟨k, rfl, hleast⟩
          · have Hn : Hid (∀ j, s.wt.getD j false = false) := hnone
            clear hnone
            obtain ⟨r0, q0⟩ := HS.out.res.int 0 (by simp)
            obtain ⟨r1, q1⟩ := HS.out.res.int 1 (by simp)
            obtain ⟨r2, q2⟩ := HS.out.res.int 2 (by simp)
            simp at r0 r1 r2
            go_wp2_with fail
            have HR : Hid (VRow (((wr.setCell ⟨w.heap.size + 1, 0, none⟩ (.int .i64 0)).setCell ⟨w.heap.size + 1, 1, none⟩ (.int .i64 0)).setCell ⟨w.heap.size + 1, 2, none⟩ (.int .i64 0)) (w.heap.size + 1) (ints [0, 0, 0])) := HS.out.res.put3 _ _ _
            exact bodyPost_ret (v := .tuple #[.slice (some ⟨w.heap.size + 1 + 1, 0, none⟩) c.length c.length, .agg #[.int .i64 0, .int .i64 0, .int .i64 0]]) (by simp [results, Tryz.results50, go_sem, HR.out.at0, HR.out.at1, HR.out.at2]) rfl
              ⟨_, _, 0, 0, 0, rfl, by omega, below_put3 HS.out.bel _ _ _ (by omega), .inl ⟨rfl, rfl, rfl, s.h, Hway.out.2 _ (.done s Hn.out), HS.out.hh.far3 _ _ _ (by omega), Hok.out.lh⟩⟩
          · have hkn : k < c.length := by have := hleast.1; rw [Hok.out.lw] at this; exact this
            have Hl : Hid (IsLeast s.wt k) := hleast
            clear hleast
            obtain ⟨v0, fw⟩ := HS.out.ww.truth k (by rw [Hok.out.lw]; exact hkn)
            go_upto_region 13 with fail
            go_cut [10] from 42 to 166 (fun x wd => x = .int .i64 k ∧ SpH w wd (.slice (some ⟨b0, off0, none⟩) p.length cap) ⟨s.h, s.wt.set k false⟩)
            case first =>
              go_wp2_with fail
              go_meet
              exact ⟨rfl, HS.out.setW k false (by rw [Hok.out.lw]; exact hkn)⟩
            case rest =>
              obtain ⟨rfl, hS⟩ := hcut
              clear HS v0 fw
              obtain ⟨bc, offc, rfl, hltc, d0, d1⟩ := Hx.out.at k hkn
              obtain ⟨op, a, hop⟩ : ∃ op a, insAt c k = (op, a) := ⟨_, _, rfl⟩
              have hcK : c[k] = (op, a) := by rw [← hop]; simp [insAt, List.getD, hkn]
              rw [hcK, ← hS.bel.cell (by exact hltc)] at d0 d1
              have Hop : Hid (insAt c k = (op, a)) := hop
              have HS : Hid (SpH w wc (.slice (some ⟨b0, off0, none⟩) p.length cap) ⟨s.h, s.wt.set k false⟩) := hS
              have hltw : bc < wc.heap.size := Nat.lt_of_lt_of_le hltc hS.bel.size
              have g0 := hS.box.at0
              have g1 := hS.box.1
              clear hS hop hcK
              go_wp2_with fail
              obtain ⟨x0, x1, x2⟩ := boxes_new wc #[.int .i64 op, .int .i64 a] #[.int .i64 f, .int .i64 k, .int .i64 5] 146 108
              refine (specTakes _ p op a _ (Hr.out.below (HS.out.bel.trans (x2.mono HS.out.bel.size)))).mono ?_
              rintro e w1 ⟨rfl, hb1⟩
              have HR : Hid (SpR w w1 (.slice (some ⟨b0, off0, none⟩) p.length cap) ⟨s.h, s.wt.set k false⟩ wc.heap.size op a [f, k, 5]) := by
                have y := vrow_new (wc.alloc (.cells #[.int .i64 op, .int .i64 a] 146)) #[.int .i64 f, .int .i64 k, .int .i64 5] 108
                rw [show (wc.alloc (.cells #[.int .i64 op, .int .i64 a] 146)).heap.size = wc.heap.size + 1 by simp] at y
                exact ⟨(HS.out.below x2).below hb1, HS.out.ww.1, x0.below hb1, y.below hb1⟩
              have hM : wc.heap.size + 1 < w1.heap.size := HR.out.bad.1
              have hMw := HR.out.hM
              obtain ⟨M, HM⟩ : ∃ M, Hid (M = wc.heap.size) := ⟨_, rfl⟩
              rw [← HM.out] at HR hM hMw ⊢
              clear HM HS d0 d1 hltw hltc x0 x1 x2 hb1 g0 g1
              obtain ⟨hk0, _⟩ := HR.out.sp.hh.int k (by rw [Hok.out.lh]; exact hkn)
              have i0' := HR.out.ins.at0
              have i1' := HR.out.ins.at1
              have zh := HR.out.sp.hh.1
              go_upto_region 17 with fail
              go_cut [14] from 42 to 166 (fun x wd => x = .int .i64 (leaves p (s.h.getD k 0) (op, a)) ∧ SpR w wd (.slice (some ⟨b0, off0, none⟩) p.length cap) ⟨s.h, s.wt.set k false⟩ M op a [f, k, 5])
              case first =>
                go_region_with (go_at_call 84; refine (specPuts op a _).mono ?_; rintro e wP ⟨rfl, hbP⟩
                                have XP := HR.out.below ((Below.refl _ _).drew.trans hbP); obtain ⟨hkP, _⟩ := XP.sp.hh.int k (by rw [Hok.out.lh]; exact hkn); have zP := XP.sp.hh.1)
                all_goals
                  go_wp2_with fail
                  go_meet
                  exact ⟨by rw [← leaves_eq]; rfl, XP⟩
              case rest =>
                obtain ⟨rfl, hR⟩ := hcut
                clear HR hk0 i0' i1' zh hM
                have HR : Hid (SpR w wc (.slice (some ⟨b0, off0, none⟩) p.length cap) ⟨s.h, s.wt.set k false⟩ M op a [f, k, 5]) := hR
                obtain ⟨hk0, _⟩ := hR.sp.hh.int k (by rw [Hok.out.lh]; exact hkn)
                have g2 := hR.sp.hh.1
                clear hR
                obtain ⟨hh, Hhh⟩ : ∃ hh, Hid (hh = s.h.getD k 0) := ⟨_, rfl⟩
                obtain ⟨tk, Htk⟩ : ∃ tk, Hid (tk = takesM p op a) := ⟨_, rfl⟩
                obtain ⟨nx, Hnx⟩ : ∃ nx, Hid (nx = leaves p (s.h.getD k 0) (op, a)) := ⟨_, rfl⟩
                rw [← Hnx.out, ← Htk.out]
                rw [← Hhh.out] at hk0
                by_cases hbad : hh < tk ∨ 8 < nx
                · have HF : Hid (HRun p c (startH c.length) (.inr (k, 5))) := Hway.out.2 _ (.fault s k 5 Hl.out (by
                    unfold turn
                    rw [show c.getD k (0, 0) = (op, a) from Hop.out, ← Hhh.out]
                    rw [Hnx.out, Htk.out, ← Hhh.out] at hbad
                    exact if_pos hbad))
                  obtain ⟨r0, q0⟩ := HR.out.sp.res.int 0 (by simp)
                  obtain ⟨r1, q1⟩ := HR.out.sp.res.int 1 (by simp)
                  obtain ⟨r2, q2⟩ := HR.out.sp.res.int 2 (by simp)
                  have b0' := HR.out.bad.at0
                  have b1' := HR.out.bad.at1
                  have b2' := HR.out.bad.at2
                  have g3 := HR.out.bad.1
                  simp at r0 r1 r2 b0' b1' b2'
                  by_cases hb1 : hh < tk
                  · clear hbad
                    go_wp2_with fail
                    go_region
                    all_goals
                      go_wp2_with fail
                      have HV : Hid (VRow (((wc.setCell ⟨w.heap.size + 1, 0, none⟩ (.int .i64 f)).setCell ⟨w.heap.size + 1, 1, none⟩ (.int .i64 k)).setCell ⟨w.heap.size + 1, 2, none⟩ (.int .i64 5)) (w.heap.size + 1) (ints [f, k, 5])) := HR.out.sp.res.put3 _ _ _
                      exact bodyPost_ret (v := .tuple #[.slice (some ⟨w.heap.size + 1 + 1, 0, none⟩) c.length c.length, .agg #[.int .i64 f, .int .i64 k, .int .i64 5]]) (by simp [results, Tryz.results50, go_sem, HV.out.at0, HV.out.at1, HV.out.at2]) rfl
                        ⟨_, _, f, k, 5, rfl, by omega, (below_put3 HR.out.sp.bel _ _ _ (by omega)).drew, .inr ⟨rfl, k, rfl, HF.out⟩⟩
                  · have hb2 : decide (hh < tk) = false := by simpa using hb1
                    have hb3 : 8 < nx := by omega
                    clear hbad
                    go_wp2_with fail
                    go_region
                    all_goals
                      go_wp2_with fail
                      have HV : Hid (VRow (((wc.setCell ⟨w.heap.size + 1, 0, none⟩ (.int .i64 f)).setCell ⟨w.heap.size + 1, 1, none⟩ (.int .i64 k)).setCell ⟨w.heap.size + 1, 2, none⟩ (.int .i64 5)) (w.heap.size + 1) (ints [f, k, 5])) := HR.out.sp.res.put3 _ _ _
                      exact bodyPost_ret (v := .tuple #[.slice (some ⟨w.heap.size + 1 + 1, 0, none⟩) c.length c.length, .agg #[.int .i64 f, .int .i64 k, .int .i64 5]]) (by simp [results, Tryz.results50, go_sem, HV.out.at0, HV.out.at1, HV.out.at2]) rfl
                        ⟨_, _, f, k, 5, rfl, by omega, (below_put3 HR.out.sp.bel _ _ _ (by omega)).drew, .inr ⟨rfl, k, rfl, HF.out⟩⟩
                · have Hgo : Hid (turn p c k s = goOn nx (goesTo k (op, a)) ⟨s.h, s.wt.set k false⟩) := by
                    show turn p c k s = _
                    unfold turn
                    rw [show c.getD k (0, 0) = (op, a) from Hop.out, ← Hhh.out]
                    rw [Hnx.out, Htk.out, ← Hhh.out] at hbad
                    rw [Hnx.out, ← Hhh.out]
                    exact if_neg hbad
                  have Htr : Hid (∀ t ∈ goesTo k (op, a), 0 ≤ t ∧ t ≤ c.length) := by
                    have := Hto.out k hkn
                    rw [Hop.out] at this
                    exact this
                  have hb1 : decide (hh < tk) = false := by simp; omega
                  have hb2 : decide (8 < nx) = false := by simp; omega
                  have i0' := HR.out.ins.at0
                  have i1' := HR.out.ins.at1
                  have g3 := HR.out.bad.1
                  have g4 := HR.out.ins.1
                  clear hbad
                  obtain ⟨t1, Ht1⟩ : ∃ t1, Hid (t1 = !decide (op = 30 ∨ op = 33)) := ⟨_, rfl⟩
                  obtain ⟨t2, Ht2⟩ : ∃ t2, Hid (t2 = decide (op = 30 ∨ op = 31)) := ⟨_, rfl⟩
                  have HO : Hid ((wc.alloc (.cells #[] 2)).ownsRow (M + 1 + 1) 2 1 (.slice (some ⟨wc.heap.size, 0, none⟩) 0 0) 0 []) := World.ownsRow_lit wc #[] 0 (by omega) (Nat.zero_le _) rfl
                  have HB : Hid (Below wc.heap.size wc (wc.alloc (.cells #[] 2))) := (Below.refl _ _).alloc (Nat.le_refl _) _
                  go_upto_region 21 with fail
                  go_cut [90] from 42 to 166 (fun x wd => x = .bool t1 ∧ wd = wc.alloc (.cells #[] 2))
                  case first =>
                    by_cases h30 : op = 30
                    · subst h30
                      go_wp2_with fail
                      go_meet
                      exact ⟨by rw [Ht1.out]; rfl, rfl⟩
                    · have n30 : (op != 30) = true := by simpa using h30
                      go_wp2_with fail
                      go_meet
                      refine ⟨?_, rfl⟩
                      rw [Ht1.out]
                      by_cases h33 : op = 33
                      · subst h33; rfl
                      · simp [h30, h33]
                  case rest =>
                    obtain ⟨rfl, hwd⟩ := hcut
                    subst hwd
                    obtain ⟨i0, hi, hz0, hz1, hz2⟩ := info_parts Tryz.info64
                    go_upto_if 90 with fail
                    go_cut [15] from 42 to 166 (fun x wd => SpR w wd (.slice (some ⟨b0, off0, none⟩) p.length cap) ⟨s.h, s.wt.set k false⟩ M op a [f, k, 5] ∧ M + 1 + 1 ≤ wd.heap.size ∧ x ≠ .slice none 0 0 ∧ wd.ownsRow (M + 1 + 1) 2 1 x (if op = 30 ∨ op = 33 then [] else [(k : Int) + 1]).length (ints (if op = 30 ∨ op = 33 then [] else [(k : Int) + 1])))
                    case first =>
                      cases t1
                      · have h3 : op = 30 ∨ op = 33 := by
                          by_cases h : op = 30 ∨ op = 33
                          · exact h
                          · have := Ht1.out
                            simp only [h, decide_false, Bool.not_false] at this
                            cases this
                        go_wp2_with fail
                        go_meet
                        exact ⟨HR.out.below HB.out, by simp; omega, by simp, by rw [if_pos h3]; exact HO.out⟩
                      · have h3 : ¬ (op = 30 ∨ op = 33) := fun h => by
                          have := Ht1.out
                          simp only [h, decide_true, Bool.not_true] at this
                          cases this
                        go_wp2_with (at_builtin; refine wpList_append_own _ rfl _ _ 106 rfl (M + 1 + 1) 2 i0 (.int .i64 0) 1 8 Tryz.underlying106 hi hz0 hz1 hz2 rfl (by decide) _ _ _ rfl (HO.out.alloc _) ⟨wc.heap.size + 1, 0, none⟩ 1 1 [Value.int .i64 ((k : Int) + 1)] rfl rfl ?c1 ?c2 ?c3 ?c4 ?c5 ?_)
                        case c1 => have := cell_one_new (wc.alloc (.cells #[] 2)) (Value.int .i64 ((k : Int) + 1)) 2; rwa [show (wc.alloc (.cells #[] 2)).heap.size = wc.heap.size + 1 by simp] at this
                        case c2 => intro u hu; simp at hu; subst hu; rfl
                        case c3 => unfold maxLen; omega
                        case c4 => omega
                        case c5 => simp; omega
                        intro v' w4 hown4 hg4 hnil
                        have Hn4 : Hid (v' ≠ .slice none 0 0) := by
                          show v' ≠ .slice none 0 0
                          first | exact hnil | (intro e; have := (hnil.1 e).1; simp at this)
                        have HW4 : Hid (SpR w w4 (.slice (some ⟨b0, off0, none⟩) p.length cap) ⟨s.h, s.wt.set k false⟩ M op a [f, k, 5]) := ((HR.out.below HB.out).below ((Below.refl _ _).alloc (Nat.le_refl _) _)).grown (hg4) (fun j hj => (HO.out.lt j hj).1)
                        have Hs4 : Hid (M + 1 + 1 ≤ w4.heap.size) := by have := hg4.size; simp at this; show M + 1 + 1 ≤ w4.heap.size; omega
                        have Ho4 : Hid (w4.ownsRow (M + 1 + 1) 2 1 v' 1 [.int .i64 ((k : Int) + 1)]) := hown4
                        clear hown4 hg4 hnil
                        go_wp2_with fail
                        go_meet
                        exact ⟨HW4.out, Hs4.out, Hn4.out, by rw [if_neg h3]; exact Ho4.out⟩
                    case rest =>
                      obtain ⟨hR, hsz, hnn, hO⟩ := hcut
                      have Hnn : Hid (u15 ≠ .slice none 0 0) := hnn
                      clear hnn
                      clear HR HO HB hk0 g2 g3 g4 i0' i1' Ht1
                      obtain ⟨ts1, Hts1⟩ : ∃ ts1, Hid (ts1 = (if op = 30 ∨ op = 33 then [] else [(k : Int) + 1])) := ⟨_, rfl⟩
                      rw [← Hts1.out] at hO
                      have hl1 : ts1.length ≤ 1 := by rw [Hts1.out]; split <;> simp
                      have HR : Hid (SpR w wc (.slice (some ⟨b0, off0, none⟩) p.length cap) ⟨s.h, s.wt.set k false⟩ M op a [f, k, 5]) := hR
                      have HO : Hid (wc.ownsRow (M + 1 + 1) 2 1 u15 ts1.length (ints ts1)) := hO
                      have i0' := hR.ins.at0
                      have i1' := hR.ins.at1
                      have g4 := hR.ins.1
                      clear hR hO
                      go_upto_region 23 with fail
                      go_cut [103] from 42 to 166 (fun x wd => x = .bool t2 ∧ wd = wc)
                      case first =>
                        by_cases h30 : op = 30
                        · subst h30
                          go_wp2_with fail
                          go_meet
                          exact ⟨by rw [Ht2.out]; rfl, rfl⟩
                        · have n30 : (op == 30) = false := by simpa using h30
                          go_wp2_with fail
                          go_meet
                          refine ⟨?_, rfl⟩
                          rw [Ht2.out]
                          by_cases h31 : op = 31
                          · subst h31; rfl
                          · simp [h30, h31]
                      case rest =>
                        obtain ⟨rfl, hwd⟩ := hcut
                        rename_i wcB wcC
                        subst hwd
                        go_upto_if 103 with fail
                        go_cut [15] from 42 to 166 (fun x wd => SpR w wd (.slice (some ⟨b0, off0, none⟩) p.length cap) ⟨s.h, s.wt.set k false⟩ M op a [f, k, 5] ∧ M + 1 + 1 ≤ wd.heap.size ∧ x ≠ .slice none 0 0 ∧ wd.ownsRow (M + 1 + 1) 2 1 x (goesTo k (op, a)).length (ints (goesTo k (op, a))))
                        case first =>
                          cases t2
                          · have h3 : ¬ (op = 30 ∨ op = 31) := of_decide_eq_false Ht2.out.symm
                            go_wp2_with fail
                            go_meet
                            exact ⟨HR.out, hsz, Hnn.out, by rw [goesTo_eq, if_neg h3, List.append_nil, ← Hts1.out]; exact HO.out⟩
                          · have h3 : op = 30 ∨ op = 31 := of_decide_eq_true Ht2.out.symm
                            go_wp2_with (at_builtin; refine wpList_append_own _ rfl _ _ 106 rfl (M + 1 + 1) 2 i0 (.int .i64 0) 1 8 Tryz.underlying106 hi hz0 hz1 hz2 rfl (by decide) _ _ _ rfl (HO.out.alloc _) ⟨_, 0, none⟩ 1 1 [Value.int .i64 a] rfl rfl (cell_one_new _ _ _) ?c2 ?c3 ?c4 ?c5 ?_)
                            case c2 => intro u hu; simp at hu; subst hu; rfl
                            case c3 => unfold maxLen; omega
                            case c4 => omega
                            case c5 => simp; omega
                            intro v' w4 hown4 hg4 hnil
                            have Hn4 : Hid (v' ≠ .slice none 0 0) := by
                              show v' ≠ .slice none 0 0
                              first | exact hnil | (intro e; exact Hnn.out (hnil.1 e).1)
                            have HW4 : Hid (SpR w w4 (.slice (some ⟨b0, off0, none⟩) p.length cap) ⟨s.h, s.wt.set k false⟩ M op a [f, k, 5]) := (HR.out.below ((Below.refl _ _).alloc (Nat.le_refl _) _)).grown hg4 (fun j hj => (HO.out.lt j hj).1)
                            have Hs4 : Hid (M + 1 + 1 ≤ w4.heap.size) := by have := hg4.size; simp at this; show M + 1 + 1 ≤ w4.heap.size; omega
                            have Ho4 : Hid (w4.ownsRow (M + 1 + 1) 2 1 v' (ts1.length + 1) (ints ts1 ++ [.int .i64 a])) := hown4
                            clear hown4 hg4 hnil
                            go_wp2_with fail
                            go_meet
                            exact ⟨HW4.out, Hs4.out, Hn4.out, by rw [goesTo_eq, if_pos h3, ← Hts1.out, ints_snoc, List.length_append]; exact Ho4.out⟩
                        case rest =>
                          obtain ⟨hR, hsz2, hnn, hO⟩ := hcut
                          obtain ⟨ts, Hts⟩ : ∃ ts, Hid (ts = goesTo k (op, a)) := ⟨_, rfl⟩
                          rw [← Hts.out] at hO
                          have hl2 : ts.length ≤ 2 := by rw [Hts.out]; exact goesTo_len _ _
                          obtain ⟨gt, capt, hform, hglt, hcells⟩ := own_form hO hnn
                          clear HR HO i0' i1' g4 hO hnn Hnn
                          have hI := irow_at (M + 1 + 1) capt hglt.1 hglt.2 hcells (by omega)
                          subst hform
                          have HR : Hid (SpR w wc (.slice (some ⟨b0, off0, none⟩) p.length cap) ⟨s.h, s.wt.set k false⟩ M op a [f, k, 5]) := hR
                          have HI : Hid (IRow (M + 1 + 1) wc (.slice (some ⟨gt, 0, none⟩) ts.length capt) ts) := hI
                          have Hrng : Hid (∀ q (h : q < ts.length), 0 ≤ ts[q] ∧ ts[q] ≤ c.length) := fun q h => by
                            refine Htr.out _ ?_
                            rw [← Hts.out]
                            exact List.getElem_mem h
                          clear hR hI hsz
                          go_wp2_with fail
                          go_loopg [16] (ts.length) (fun g i wr => ∃ (q : Nat) (s2 : HS), q ≤ ts.length ∧ i = .int .i64 q ∧ ts.length ≤ q + g ∧ goOn nx (ts.take q) ⟨s.h, s.wt.set k false⟩ = .inl s2 ∧ s2.h.length = c.length ∧ s2.wt.length = c.length ∧
                              SpR w wr (.slice (some ⟨b0, off0, none⟩) p.length cap) s2 M op a [f, k, 5] ∧ IRow (M + 1 + 1) wr (.slice (some ⟨gt, 0, none⟩) ts.length capt) ts)
                          case atStart => exact ⟨0, ⟨s.h, s.wt.set k false⟩, Nat.zero_le _, rfl, by omega, rfl, Hok.out.lh, by rw [List.length_set]; exact Hok.out.lw, HR.out, HI.out⟩
                          case round =>
                            clear HR HI
                            obtain ⟨q, s2, hq, rfl, hqg, hgo2, hlh, hlw, hR, hI⟩ := hrel
                            have HR : Hid (SpR w wr (.slice (some ⟨b0, off0, none⟩) p.length cap) s2 M op a [f, k, 5]) := hR
                            have HI : Hid (IRow (M + 1 + 1) wr (.slice (some ⟨gt, 0, none⟩) ts.length capt) ts) := hI
                            have Hgo2 : Hid (goOn nx (ts.take q) ⟨s.h, s.wt.set k false⟩ = .inl s2) := hgo2
                            clear hR hI hgo2
                            by_cases hql : q < ts.length
                            · obtain ⟨hBt, hltt, ct⟩ := HI.out.cell q hql
                              obtain ⟨tn, htn'⟩ : ∃ tn : Nat, ts[q] = (tn : Int) := ⟨ts[q].toNat, (Int.toNat_of_nonneg (Hrng.out q hql).1).symm⟩
                              have Ht : Hid ((tn : Int) = ts[q]) := htn'.symm
                              have htn := (Hrng.out q hql).2
                              rw [htn'] at htn ct
                              rw [Nat.zero_add] at ct
                              clear htn'
                              obtain ⟨r0, q0⟩ := HR.out.sp.res.int 0 (by simp)
                              obtain ⟨r1, q1⟩ := HR.out.sp.res.int 1 (by simp)
                              obtain ⟨r2, q2⟩ := HR.out.sp.res.int 2 (by simp)
                              obtain ⟨b0', p0⟩ := HR.out.bad.int 0 (by simp)
                              obtain ⟨b1', p1⟩ := HR.out.bad.int 1 (by simp)
                              obtain ⟨b2', p2⟩ := HR.out.bad.int 2 (by simp)
                              simp at r0 r1 r2 b0' b1' b2'
                              have g2 := HR.out.sp.hh.1
                              have g3 := HR.out.bad.1
                              have g5 := HR.out.sp.ww.1
                              by_cases h6 : c.length ≤ tn
                              · have HF : Hid (HRun p c (startH c.length) (.inr (k, 6))) := Hway.out.2 _ (.fault s k 6 Hl.out (by
                                  rw [Hgo.out, ← Hts.out]
                                  refine goOn_take_fault hql Hgo2.out ?_
                                  rw [← Ht.out, goOn_cons, if_pos (by rw [hlh]; omega)]))
                                have HR6 : Hid (SpR w (wr.setCell ⟨M + 1, 2, none⟩ (.int .i64 6)) (.slice (some ⟨b0, off0, none⟩) p.length cap) s2 M op a [f, k, 6]) := HR.out.setBad
                                obtain ⟨r0', q0'⟩ := HR6.out.sp.res.int 0 (by simp)
                                obtain ⟨r1', q1'⟩ := HR6.out.sp.res.int 1 (by simp)
                                obtain ⟨r2', q2'⟩ := HR6.out.sp.res.int 2 (by simp)
                                simp at r0' r1' r2'
                                go_wp2_with fail
                                go_region
                                all_goals
                                  go_wp2_with fail
                                  have HV : Hid (VRow ((((wr.setCell ⟨M + 1, 2, none⟩ (.int .i64 6)).setCell ⟨w.heap.size + 1, 0, none⟩ (.int .i64 f)).setCell ⟨w.heap.size + 1, 1, none⟩ (.int .i64 k)).setCell ⟨w.heap.size + 1, 2, none⟩ (.int .i64 6)) (w.heap.size + 1) (ints [f, k, 6])) := HR6.out.sp.res.put3 _ _ _
                                  exact bodyPost_ret (v := .tuple #[.slice (some ⟨w.heap.size + 1 + 1, 0, none⟩) c.length c.length, .agg #[.int .i64 f, .int .i64 k, .int .i64 6]]) (by simp [results, Tryz.results50, go_sem, HV.out.at0, HV.out.at1, HV.out.at2]) rfl
                                    ⟨_, _, f, k, 6, rfl, by omega, (below_put3 HR6.out.sp.bel _ _ _ (by omega)).drew, .inr ⟨rfl, k, rfl, HF.out⟩⟩
                              · have htl : tn < c.length := by omega
                                obtain ⟨ch, fh⟩ := HR.out.sp.hh.int tn (by omega)
                                obtain ⟨cw, fwt⟩ := HR.out.sp.ww.truth tn (by omega)
                                obtain ⟨x, Hxt⟩ : ∃ x, Hid (x = s2.h.getD tn 0) := ⟨_, rfl⟩
                                rw [← Hxt.out] at ch
                                have Hst : Hid (goOn nx [ts[q]] s2 = if 0 ≤ x ∧ x ≠ nx then .inr 5 else if x < 0 then .inl ⟨s2.h.set tn nx, s2.wt.set tn true⟩ else .inl s2) := by
                                  show goOn nx [ts[q]] s2 = _
                                  rw [← Ht.out, goOn_cons, if_neg (by rw [hlh]; omega), Int.toNat_natCast, ← Hxt.out]
                                  rfl
                                by_cases hx0 : x < 0
                                · have hx1 : decide (0 ≤ x) = false := by simp; omega
                                  go_wp2_with fail
                                  go_roundg (gk - 1)
                                  case measure => omega
                                  case rel =>
                                    exact ⟨q + 1, ⟨s2.h.set tn nx, s2.wt.set tn true⟩, by omega, by go_num, by omega, by rw [goOn_take hql Hgo2.out, Hst.out, if_neg (by omega), if_pos hx0], by simpa using hlh, by simpa using hlw,
                                      (HR.out.setH tn nx (by omega)).setW tn true (by show tn < s2.wt.length; omega), (HI.out.set (by show w.heap.size + 1 + 1 < M + 1 + 1; omega) _).set (by show w.heap.size + 1 + 1 + 1 < M + 1 + 1; omega) _⟩
                                · have hx1 : 0 ≤ x := by omega
                                  by_cases hxn : x = nx
                                  · go_wp2_with fail
                                    go_roundg (gk - 1)
                                    case measure => omega
                                    case rel => exact ⟨q + 1, s2, by omega, by go_num, by omega, by rw [goOn_take hql Hgo2.out, Hst.out, if_neg (by omega), if_neg (by omega)], hlh, hlw, HR.out, HI.out⟩
                                  · have hxn' : (x != nx) = true := by simpa using hxn
                                    have HF : Hid (HRun p c (startH c.length) (.inr (k, 5))) := Hway.out.2 _ (.fault s k 5 Hl.out (by
                                      rw [Hgo.out, ← Hts.out]
                                      exact goOn_take_fault hql Hgo2.out (by rw [Hst.out, if_pos ⟨hx1, hxn⟩])))
                                    go_wp2_with fail
                                    go_region
                                    all_goals
                                      go_wp2_with fail
                                      have HV : Hid (VRow ((((wr).setCell ⟨w.heap.size + 1, 0, none⟩ (.int .i64 f)).setCell ⟨w.heap.size + 1, 1, none⟩ (.int .i64 k)).setCell ⟨w.heap.size + 1, 2, none⟩ (.int .i64 5)) (w.heap.size + 1) (ints [f, k, 5])) := HR.out.sp.res.put3 _ _ _
                                      exact bodyPost_ret (v := .tuple #[.slice (some ⟨w.heap.size + 1 + 1, 0, none⟩) c.length c.length, .agg #[.int .i64 f, .int .i64 k, .int .i64 5]]) (by simp [results, Tryz.results50, go_sem, HV.out.at0, HV.out.at1, HV.out.at2]) rfl
                                        ⟨_, _, f, k, 5, rfl, by omega, (below_put3 HR.out.sp.bel _ _ _ (by omega)).drew, .inr ⟨rfl, k, rfl, HF.out⟩⟩
                            · have Hturn : Hid (turn p c k s = .inl s2) := by
                                show turn p c k s = .inl s2
                                rw [Hgo.out, ← Hts.out, ← Hgo2.out, List.take_of_length_le (by omega)]
                              have Hless := turn_less Hp.out Hok.out Hl.out (fun t ht => (Hto.out k hkn t ht).1) Hturn.out
                              go_wp2_with fail
                              go_roundg (s2.weight)
                              case measure => exact Nat.lt_of_lt_of_le Hless.2 Hway.out.1
                              case rel => exact ⟨s2, Hless.1, HR.out.sp, Nat.le_refl _, fun r h => Hway.out.2 r (.more s s2 k r Hl.out Hturn.out h)⟩
end Go.Proofs.YtijgonjnmibifaaGreatDoor
