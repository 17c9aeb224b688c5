/- laws.FnHeights. -/
import Derived.Test.YtpaiamcidpahpaaDoorHtP
namespace Go.Proofs.YtpaiamcidpahpaaDoor
open Go.RowKit

/-- what the law reads again and again -/
structure HtK (w : World) (N bf of' bc oc capc bu : Nat) (x : Value) (p : List FnM) (c : List (Int × Int)) (hs : List Int) : Prop where
  box : w.cell? ⟨N, 0, none⟩ = some x
  boxl : N < w.heap.size
  code : w.cell? ⟨bf, of', none⟩ = some (.slice (some ⟨bc, oc, none⟩) c.length capc)
  ins : ∀ i, i < c.length → w.cell? ⟨bc, oc + i * 2, none⟩ = some (.int .i64 (insAt c i).1) ∧ w.cell? ⟨bc, oc + i * 2 + 1, none⟩ = some (.int .i64 (insAt c i).2)
  hts : ∀ i, i < hs.length → w.cell? ⟨bu, i, none⟩ = some (.int .i64 (hs.getD i 0))
  row : FnRow 0 w x p
  tab : Tab w

/-- one of the headers that are told: a place, reached, behind the one before it -/
theorem heads_at {p : List FnM} {c : List (Int × Int)} {hs zs : List Int} (hz : zs = (heads c hs).map fun (n : Nat) => (n : Int)) (hA : HtAll p c hs) (q : Nat) (hq : q < zs.length) :
    ∃ t : Nat, zs.getD q 0 = t ∧ t < hs.length ∧ 0 ≤ hs.getD t 0 ∧ ∀ q', q = q' + 1 → ∃ t' : Nat, zs.getD q' 0 = t' ∧ t' < t := by
  subst hz
  have hq' : q < (heads c hs).length := by simpa using hq
  have hm := hA.heads _ (List.getElem_mem hq')
  refine ⟨(heads c hs)[q], by simp [List.getD, hq'], hm.1, hm.2, fun q' e => ?_⟩
  subst e
  have hq2 : q' < (heads c hs).length := by omega
  exact ⟨(heads c hs)[q'], by simp [List.getD, hq2], List.pairwise_iff_getElem.1 (heads_rise c hs) q' (q' + 1) hq2 hq' (by omega)⟩

set_option maxRecDepth 100000 in
set_option maxHeartbeats 12800000 in
theorem lawHeights (v0 : Value) (w : World) (i0 : IsBytes w v0) (tab : Tab w) :
    Calls Tryd.prog 3 #[v0] w fun e w' => e = .returned (.bool true) ∧ Below w.heap.size w w' := by
  obtain ⟨zs, hr, hz⟩ := i0
  have Hr : Hid (Row8 w.heap.size w v0 zs) := hr
  have Ht : Hid (Tab w) := tab
  obtain ⟨ad, cap, rfl⟩ := hr.len
  clear hr tab
  by_cases hlen : zs.length ≤ 1048576
  · go_enter Tryd.func3, Tryd.ntmps3
    go_wp2_with fail
    refine (drawHeights _ zs _ Hr.out hlen).mono ?_
    rintro e w1 ⟨u, p, f, rfl, hD, hf, hb1⟩
    have D1 : Hid (Drawn 0 w1 u p) := ⟨hD.1.lower (Nat.zero_le _), hD.2⟩
    have hpl : p.length ≤ 7 := hD.2.2.2.2.1
    obtain ⟨Au, capu, rfl⟩ := hD.1.form
    have Hb1 : Hid (Below w.heap.size w w1) := hb1
    clear hD hb1 Hr
    have X0 : Hid (Box _ w1.heap.size #[.slice Au p.length capu]) := box_new w1 #[.slice Au p.length capu] 25
    have X2 : Hid (Below w1.heap.size w1 (w1.alloc (.cells #[.slice Au p.length capu] 25))) := (Below.refl _ _).alloc (Nat.le_refl _) _
    go_wp2_with fail
    refine (specVerify _ p _ (D1.out.below X2.out).1 D1.out.2.1).mono ?_
    rintro e w2 ⟨F, A, C, rfl, hb2, hV⟩
    have HV : Hid (VerifyIs p F A C) := hV
    have hb12 : Below w1.heap.size w1 w2 := X2.out.trans (hb2.mono (by simp))
    have B2 : Hid (Box w2 w1.heap.size #[.slice Au p.length capu]) := X0.out.below hb2
    have D2 : Hid (Drawn 0 w2 (.slice Au p.length capu) p) := D1.out.below hb12
    have Hb2 : Hid (Below w.heap.size w w2) := Hb1.out.trans (hb12.mono Hb1.out.size)
    clear hV hb2 hb12 X0 X2 D1 Hb1
    have Y0 : Hid (Box _ w2.heap.size #[.int .i64 F, .int .i64 A, .int .i64 C]) := box_new w2 #[.int .i64 F, .int .i64 A, .int .i64 C] 29
    have Y2 : Hid (Below w2.heap.size w2 (w2.alloc (.cells #[.int .i64 F, .int .i64 A, .int .i64 C] 29))) := (Below.refl _ _).alloc (Nat.le_refl _) _
    generalize hW : w2.alloc (.cells #[.int .i64 F, .int .i64 A, .int .i64 C] 29) = w3 at Y0 Y2
    have B3 : Hid (Box w3 w1.heap.size #[.slice Au p.length capu]) := B2.out.below Y2.out
    have D3 : Hid (Drawn 0 w3 (.slice Au p.length capu) p) := D2.out.below Y2.out
    have Hb3 : Hid (Below w.heap.size w w3) := Hb2.out.trans (Y2.out.mono Hb2.out.size)
    have c0 := B3.out.at0
    have c1 := B3.out.1
    have d0 := Y0.out.at0
    have d1 := Y0.out.at1
    have d2 := Y0.out.at2
    have d3 := Y0.out.1
    clear Y2 B2 D2 Hb2
    have HD3 : Hid (FnRow 0 w3.drew (.slice Au p.length capu) p) := D3.out.1.below (Below.refl _ _).drew
    have HT3 : Hid (Tab w3.drew) := Ht.out.below (Hb3.out.drew)
    go_upto_region 5 with fail
    try rw [hW]
    clear hW
    go_cut [26] (fun x wd => x = .bool false ∧ Below w3.heap.size w3 wd)
    case first =>
      have he : ∀ W : World, (Op.equalIn 10000 29 (.agg #[.int .i64 F, .int .i64 A, .int .i64 C]) (.agg #[.int .i64 F, .int .i64 A, .int .i64 C])).run Tryd.prog W = .ok true W := fun W => by rw [eqVer]; simp
      have HQ : Hid (∀ w4 F' A' C', Below w3.drew.heap.size w3.drew w4 → (ArgsUp p → VerifyIs p F' A' C') → (F' = F ∧ A' = A ∧ C' = C) ∧ Below w3.heap.size w3 w4 ∧ (w4.cell? ⟨w2.heap.size, 0, none⟩ = some (.int .i64 F) ∧ w4.cell? ⟨w2.heap.size, 1, none⟩ = some (.int .i64 A) ∧ w4.cell? ⟨w2.heap.size, 2, none⟩ = some (.int .i64 C)) ∧ w2.heap.size < w4.heap.size) := fun w4 F' A' C' hb hV' => by
        have hb34 : Below w3.heap.size w3 w4 := (Below.refl _ _).drew.trans hb
        have y := Y0.out.below hb34
        exact ⟨(hV' D3.out.2.2.1).unique HV.out, hb34, ⟨y.at0, y.at1, y.at2⟩, y.1⟩
      go_region_with (go_at_call 10; refine (implVerify _ p _ HT3.out HD3.out).mono ?_; rintro e w4 ⟨F', A', C', rfl, hb4, -, hV'⟩; obtain ⟨⟨eF, eA, eC⟩, hb34, ⟨k0, k1, k2⟩, k3⟩ := HQ.out w4 F' A' C' hb4 hV'; rw [eF, eA, eC]; clear hV' hb4)
      all_goals
        go_wp2_with fail
        go_meet
        exact ⟨by simp, hb34⟩
    case rest =>
      obtain ⟨rfl, hb4⟩ := hcut
      have B4 : Hid (Box wc w1.heap.size #[.slice Au p.length capu]) := B3.out.below hb4
      have Y4 : Hid (Box wc w2.heap.size #[.int .i64 F, .int .i64 A, .int .i64 C]) := Y0.out.below hb4
      have D4 : Hid (Drawn 0 wc (.slice Au p.length capu) p) := D3.out.below hb4
      have Hb4 : Hid (Below w.heap.size w wc) := Hb3.out.trans (hb4.mono Hb3.out.size)
      clear hb4 c0 c1 d0 d1 d2 d3 HD3 HT3 B3 D3 Hb3 Y0
      have c0 := B4.out.at0
      have c1 := B4.out.1
      go_wp2_with fail
      refine (implHeights _ p f _ (Ht.out.below Hb4.out) D4.out.1).mono ?_
      rintro e w5 ⟨u, hs, rfl, hu, hans, hb5⟩
      have B5 : Hid (Box w5 w1.heap.size #[.slice Au p.length capu]) := B4.out.below hb5
      have Y5 : Hid (Box w5 w2.heap.size #[.int .i64 F, .int .i64 A, .int .i64 C]) := Y4.out.below hb5
      have D5 : Hid (Drawn 0 w5 (.slice Au p.length capu) p) := D4.out.below hb5
      have Hb5 : Hid (Below w.heap.size w w5) := Hb4.out.trans (hb5.mono Hb4.out.size)
      have HU : Hid (OwnV 0 w5 u hs) := hu.lower (Nat.zero_le _)
      have Hans : Hid (AnsIs p f hs) := hans
      obtain ⟨Ah, caph, rfl⟩ := hu.form
      clear hu hans hb5 c0 c1 B4 Y4 D4 Hb4
      have c0 := B5.out.at0
      have c1 := B5.out.1
      have d2 := Y5.out.at2
      have d3 := Y5.out.1
      have hCR := verifyIs_right HV.out
      by_cases hmain : C = 0 ∧ 0 ≤ f ∧ f < p.length
      · obtain ⟨rfl, hf0, hfl⟩ := hmain
        obtain ⟨k, rfl⟩ := Int.eq_ofNat_of_zero_le hf0
        have hk : k < p.length := by omega
        have hright := hCR.1 rfl
        have hin : inL (k : Int) p.length = true := by simp [inL]; omega
        obtain ⟨hs', hrun, hA⟩ := hright.all' k hk
        have hhs : hs = hs' := by
          rcases Hans.out with ⟨_, _, c⟩ | ⟨n, _⟩
          · have := c.unique hrun; simpa using this
          · exact absurd ⟨hright, hin⟩ n
        subst hhs
        have hfn := fnAt_nat p k hk
        obtain ⟨c, hc⟩ : ∃ c, c = (fnAt p k).code := ⟨_, rfl⟩
        rw [← hc] at hA
        have HAl : Hid (HtAll p c hs) := hA
        have Hc : Hid (c = (fnAt p k).code) := hc
        have hcp : p[k].code = c := by rw [hc, hfn]
        have hcl := hA.len
        have h1 := hA.pos
        have h60 := hA.few
        obtain ⟨bf, offf, x, rfl, hltf, -, -, ef, hx⟩ := D5.out.1.at k hk
        rw [hcp] at hx
        obtain ⟨Ac, capc, rfl⟩ := hx.form
        obtain ⟨bc, offc, rfl, hltc, -, -⟩ := hx.at 0 (by omega)
        obtain ⟨Au', capu', he, -, hor⟩ := HU.out
        simp only [Value.slice.injEq] at he
        obtain ⟨rfl, -, rfl⟩ := he
        rcases hor with rfl | ⟨bu, rfl, -, hV⟩
        · simp at h1
        have HK : Hid (∀ W, Below w5.heap.size w5 W → HtK W w1.heap.size bf (offf + k * 3 + 2) bc offc capc bu (.slice (some ⟨bf, offf, none⟩) p.length capu) p c hs) := fun W hW => by
          refine ⟨(B5.out.below hW).at0, (B5.out.below hW).1, by rw [hW.cell (by exact hltf)]; exact ef, fun i hi => ?_, fun i hi => ?_, D5.out.1.below hW, Ht.out.below (Hb5.out.trans (hW.mono Hb5.out.size))⟩
          · obtain ⟨b', o', he, -, c0, c1⟩ := hx.at i hi
            simp only [Option.some.injEq, Addr.mk.injEq, and_true] at he
            obtain ⟨rfl, rfl⟩ := he
            rw [insAt_lt _ _ hi]
            exact ⟨by rw [hW.cell (by exact hltc)]; exact c0, by rw [hW.cell (by exact hltc)]; exact c1⟩
          · rw [hW.cell (by exact hV.1)]
            exact (hV.int i (by omega)).1
        have y0 := (HK.out w5 (Below.refl _ _)).hts 0 (by omega)
        rw [hA.first] at y0
        have hkp : (k : Int) < p.length := by omega
        have hlen1 : (0 : Int) < hs.length := by omega
        have hlenc : c.length = hs.length := hcl.symm
        have efc : w5.cell? ⟨bf, offf + k * 3 + 2, none⟩ = some (.slice (some ⟨bc, offc, none⟩) hs.length capc) := by rw [hcl]; exact ef
        clear ef hx hV hltf hltc hA hc hfn hcp hrun hin hright hCR hf0 hfl hcl HU
        have hdk : decide (p.length ≤ k) = false := by simp; omega
        go_wp2_with fail
        try simp only [hdk, Bool.or_false]
        clear hkp hk hdk
        go_loopg [8] (hs.length) (fun g i wr => ∃ q : Nat, q ≤ hs.length ∧ i = .int .i64 q ∧ hs.length ≤ q + g ∧ Below w5.heap.size w5 wr)
        case atStart => exact ⟨0, Nat.zero_le _, rfl, by omega, Below.refl _ _⟩
        case round =>
          rename World => wo
          obtain ⟨q, hq, rfl, hqg, hb⟩ := hrel
          have Hb : Hid (Below w5.heap.size w5 wo) := hb
          clear hb
          by_cases hql : q < hs.length
          · have K := HK.out wo Hb.out
            have z0 := K.hts q hql
            obtain ⟨z1, z2⟩ := K.ins q (by omega)
            have z3 := K.box
            have z4 := K.boxl
            have hql' : (q : Int) < hs.length := by omega
            have Pt := HAl.out.takes q hql
            have Pn := HAl.out.next q hql
            have Pp := HAl.out.plain q hql
            have Pj := HAl.out.jump q hql
            have Pr := HAl.out.rng q hql
            generalize insAt c q = I at z1 z2 Pt Pn Pp Pj
            obtain ⟨op, a⟩ := I
            simp only at z1 z2 Pt Pn Pp Pj
            obtain ⟨hh, Hhh⟩ : ∃ hh, hh = hs.getD q 0 := ⟨_, rfl⟩
            rw [← Hhh] at z0 Pt Pn Pp Pj Pr
            clear K Hhh y0
            by_cases hneg : hh < 0
            · clear Pt Pn Pp Pj Pr
              go_wp2_with fail
              go_roundg (hs.length - (q + 1))
              case measure => omega
              case rel => exact ⟨q + 1, by omega, by go_num, by omega, Hb.out⟩
            · have h0 : 0 ≤ hh := by omega
              have h8 : hh ≤ 8 := by omega
              obtain ⟨t0, t1⟩ := Pt h0
              have n8 := Pn h0
              have HPp : Hid (op ≠ 30 → op ≠ 33 → q + 1 < hs.length ∧ hs.getD (q + 1) 0 = hh - takesM p op a + putsM op) := Pp h0
              have HPj : Hid (op = 30 ∨ op = 31 → 0 ≤ a ∧ a < hs.length ∧ hs.getD a.toNat 0 = hh - takesM p op a + putsM op) := Pj h0
              have pr := putsM_range op
              obtain ⟨tk, Htk⟩ : ∃ tk, tk = takesM p op a := ⟨_, rfl⟩
              obtain ⟨pu, Hpu⟩ : ∃ pu, pu = putsM op := ⟨_, rfl⟩
              rw [← Htk] at t0 t1 n8 HPp HPj
              rw [← Hpu] at n8 HPp HPj pr
              have HTk : Hid (tk = takesM p op a) := Htk
              have HPu : Hid (pu = putsM op) := Hpu
              have HKd : Hid (∀ W, Below wo.heap.size wo W → HtK W w1.heap.size bf (offf + k * 3 + 2) bc offc capc bu (.slice (some ⟨bf, offf, none⟩) p.length capu) p c hs) := fun W hW => HK.out W (Hb.out.trans (hW.mono Hb.out.size))
              have HRd : Hid (FnRow 0 wo.drew (.slice (some ⟨bf, offf, none⟩) p.length capu) p) := (HKd.out wo.drew (Below.refl _ _).drew).row
              have HTd : Hid (Tab wo.drew) := (HKd.out wo.drew (Below.refl _ _).drew).tab
              clear Pt Pn Pp Pj Pr Htk Hpu
              go_upto_region 17 with fail
              go_cut [9] from 71 to 161 (fun x wd => x = .int .i64 (hh - tk) ∧ Below wo.heap.size wo wd)
              case first =>
                have HZ : Hid (∀ W, Below wo.heap.size wo W → W.cell? ⟨bu, q, none⟩ = some (.int .i64 hh) ∧ W.cell? ⟨w1.heap.size, 0, none⟩ = some (.slice (some ⟨bf, offf, none⟩) p.length capu) ∧ W.cell? ⟨bc, offc + q * 2, none⟩ = some (.int .i64 op) ∧ W.cell? ⟨bc, offc + q * 2 + 1, none⟩ = some (.int .i64 a)) := fun W hW =>
                  ⟨(hW.cell (World.block_lt_of_cell? wo _ z0)).trans z0, (hW.cell (World.block_lt_of_cell? wo _ z3)).trans z3, (hW.cell (World.block_lt_of_cell? wo _ z1)).trans z1, (hW.cell (World.block_lt_of_cell? wo _ z2)).trans z2⟩
                obtain ⟨q0, q1, q2, q3⟩ := HZ.out wo.drew (Below.refl _ _).drew
                have hwt : IntKind.i64.wrap (hh - tk) = hh - tk := by rw [IntKind.wrap_i64]; omega
                go_region_held3 (fun w' => w'.cell? ⟨bu, q, none⟩ = some (.int .i64 hh) ∧ w'.cell? ⟨w1.heap.size, 0, none⟩ = some (.slice (some ⟨bf, offf, none⟩) p.length capu) ∧ w'.cell? ⟨bc, offc + q * 2, none⟩ = some (.int .i64 op) ∧ w'.cell? ⟨bc, offc + q * 2 + 1, none⟩ = some (.int .i64 a))
                  (first | (exact ⟨q0, q1, q2, q3⟩) | (exact ⟨y0, y1, y2, y3⟩))
                  (first | (go_at_call 13; refine (implTakes _ p op a _ HTd.out HRd.out).mono ?_; rintro e w6 ⟨rfl, hb6⟩; rw [← HTk.out]; have hb6' : Below wo.heap.size wo w6 := (Below.refl _ _).drew.trans hb6; obtain ⟨y0, y1, y2, y3⟩ := HZ.out w6 hb6'))
                all_goals
                  go_wp2_with fail
                  go_meet
                  first | exact ⟨rfl, hb6'⟩ | exact ⟨by rw [hwt], hb6'⟩ | exact ⟨by simp [hwt], hb6'⟩
              case rest =>
                obtain ⟨rfl, hb6⟩ := hcut
                have H6 : Hid (Below wo.heap.size wo wc) := hb6
                clear hb6
                obtain ⟨L, HL⟩ : ∃ L, L = hh - tk := ⟨_, rfl⟩
                have HLh : Hid (L = hh - tk) := HL
                rw [← HL]
                have hL0 : 0 ≤ L := by omega
                have hL8 : L + pu ≤ 8 := by omega
                have hLle : L ≤ 8 := by omega
                have HPp' : Hid (op ≠ 30 → op ≠ 33 → q + 1 < hs.length ∧ hs.getD (q + 1) 0 = L + pu) := by rw [HL]; exact HPp.out
                have HPj' : Hid (op = 30 ∨ op = 31 → 0 ≤ a ∧ a < hs.length ∧ hs.getD a.toNat 0 = L + pu) := by rw [HL]; exact HPj.out
                have HC6 : Hid (∀ W, Below wc.heap.size wc W → HtK W w1.heap.size bf (offf + k * 3 + 2) bc offc capc bu (.slice (some ⟨bf, offf, none⟩) p.length capu) p c hs ∧ W.cell? ⟨bc, offc + q * 2, none⟩ = some (.int .i64 op) ∧ W.cell? ⟨bc, offc + q * 2 + 1, none⟩ = some (.int .i64 a)) := fun W hW =>
                  have hh' := H6.out.trans (hW.mono H6.out.size)
                  ⟨HKd.out W hh', (hh'.cell (World.block_lt_of_cell? wo _ z1)).trans z1, (hh'.cell (World.block_lt_of_cell? wo _ z2)).trans z2⟩
                obtain ⟨K6, v1, v2⟩ := HC6.out wc (Below.refl _ _)
                have T6 : Hid (Tab wc) := K6.tab
                clear K6 HL HPp HPj z0 z1 z2 z3 z4 HTd HRd HKd t0 t1 n8
                go_wp2_with fail
                refine (implPuts op a _ T6.out).mono ?_
                rintro e w7 ⟨rfl, hb7⟩
                rw [show (opRow op).2.2.2 = pu from HPu.out.symm]
                obtain ⟨K7, x1, x2⟩ := HC6.out w7 hb7
                have H7 : Hid (Below w5.heap.size w5 w7) := Hb.out.trans ((H6.out.trans (hb7.mono H6.out.size)).mono Hb.out.size)
                have HK7 : Hid (HtK w7 w1.heap.size bf (offf + k * 3 + 2) bc offc capc bu (.slice (some ⟨bf, offf, none⟩) p.length capu) p c hs) := K7
                clear K7 hb7 v1 v2 T6 HC6 H6
                by_cases o30 : op = 30
                · subst o30
                  obtain ⟨ja, jb, jc⟩ := HPj'.out (.inl rfl)
                  obtain ⟨an, rfl⟩ := Int.eq_ofNat_of_zero_le ja
                  have g0 := HK7.out.hts an (by omega)
                  rw [show ((an : Int)).toNat = an by omega] at jc
                  rw [jc] at g0
                  go_wp2_with fail
                  go_roundg (hs.length - (q + 1))
                  case measure => omega
                  case rel => exact ⟨q + 1, by omega, by go_num, by omega, H7.out⟩
                · by_cases o33 : op = 33
                  · subst o33
                    go_wp2_with fail
                    go_roundg (hs.length - (q + 1))
                    case measure => omega
                    case rel => exact ⟨q + 1, by omega, by go_num, by omega, H7.out⟩
                  · obtain ⟨pa, pb⟩ := HPp'.out o30 o33
                    have g1 := HK7.out.hts (q + 1) pa
                    rw [pb] at g1
                    have pa' : (q : Int) + 1 < hs.length := by omega
                    by_cases o31 : op = 31
                    · subst o31
                      obtain ⟨ja, jb, jc⟩ := HPj'.out (.inr rfl)
                      obtain ⟨an, rfl⟩ := Int.eq_ofNat_of_zero_le ja
                      have g0 := HK7.out.hts an (by omega)
                      rw [show ((an : Int)).toNat = an by omega] at jc
                      rw [jc] at g0
                      go_wp2_with fail
                      go_roundg (hs.length - (q + 1))
                      case measure => omega
                      case rel => exact ⟨q + 1, by omega, by go_num, by omega, H7.out⟩
                    · go_wp2_with fail
                      go_roundg (hs.length - (q + 1))
                      case measure => omega
                      case rel => exact ⟨q + 1, by omega, by go_num, by omega, H7.out⟩
          · have hqe : q = hs.length := by omega
            subst hqe
            have K := HK.out wo Hb.out
            have z3 := K.box
            have z4 := K.boxl
            have KR : Hid (FnRow 0 wo (.slice (some ⟨bf, offf, none⟩) p.length capu) p) := K.row
            have KT : Hid (Tab wo) := K.tab
            clear K y0
            go_wp2_with fail
            refine (implHeaders _ p k _ KT.out KR.out).mono ?_
            rintro e w8 ⟨u8, zs8, rfl, hu8, hh8, hb8⟩
            have hz8 : zs8 = (heads c hs).map fun (n : Nat) => (n : Int) := hh8.unique ⟨hs, Hans.out, by rw [← Hc.out]⟩
            have Hz8 : Hid (zs8 = (heads c hs).map fun (n : Nat) => (n : Int)) := hz8
            have H8 : Hid (Below w5.heap.size w5 w8) := Hb.out.trans (hb8.mono Hb.out.size)
            obtain ⟨A8, cap8, rfl, hl8, hor8⟩ := hu8
            have Hor : Hid (zs8 = [] ∨ ∃ b, A8 = some ⟨b, 0, none⟩ ∧ VRow w8 b (ints zs8)) := hor8.imp id fun ⟨b, h1, _, h3⟩ => ⟨b, h1, h3⟩
            clear hh8 hb8 hz8 hor8 z3 z4 KR KT
            go_wp2_with fail
            go_loopg [12] (zs8.length) (fun g i wr => ∃ q : Nat, q ≤ zs8.length ∧ i = .int .i64 q ∧ zs8.length ≤ q + g ∧ Below w8.heap.size w8 wr)
            case atStart => exact ⟨0, Nat.zero_le _, rfl, by omega, Below.refl _ _⟩
            case round =>
              obtain ⟨q, hq, rfl, hqg2, hb⟩ := hrel
              have H9 : Hid (Below w8.heap.size w8 wr) := hb
              have H59 : Hid (Below w5.heap.size w5 wr) := H8.out.trans (hb.mono H8.out.size)
              clear hb
              by_cases hq8 : q < zs8.length
              · obtain ⟨b8, hb8, hv8⟩ : ∃ b, A8 = some ⟨b, 0, none⟩ ∧ VRow w8 b (ints zs8) := Hor.out.resolve_left (fun e => by rw [e] at hq8; simp at hq8)
                obtain ⟨t, Ht⟩ := heads_at Hz8.out HAl.out q hq8
                have r0 : wr.cell? ⟨b8, q, none⟩ = some (.int .i64 (t : Int)) := by
                  rw [H9.out.cell (by exact hv8.1), (hv8.int q hq8).1, Ht.1]
                have r2 := (HK.out wr H59.out).hts t Ht.2.1
                have htl : (t : Int) < hs.length := by have := Ht.2.1; omega
                have hq8' : (q : Int) < zs8.length := by omega
                obtain ⟨hv, Hhv⟩ : ∃ hv, hv = hs.getD t 0 := ⟨_, rfl⟩
                rw [← Hhv] at r2
                have hv0 : 0 ≤ hv := by rw [Hhv]; exact Ht.2.2.1
                have hprev := Ht.2.2.2
                have HV8 : Hid (VRow w8 b8 (ints zs8)) := hv8
                subst hb8
                have d1 : decide ((t : Int) < 0) = false := by simp
                have d2 : decide ((hs.length : Int) ≤ t) = false := by simp; omega
                have d2' : decide (hs.length ≤ t) = false := by simp; omega
                have d3 : decide (hv < 0) = false := by simp; omega
                clear Ht hv8 Hhv
                cases q with
                | zero =>
                  clear hprev
                  have h00 : (0 : Int) < zs8.length := by omega
                  have h00' : 0 < zs8.length := by omega
                  go_wp2_with fail
                  go_quiet (fail)
                  go_wp2_with fail
                  go_roundg (zs8.length - 1)
                  case measure => omega
                  case rel => exact ⟨1, by omega, by go_num, by omega, ⟨H9.out.os, H9.out.tape, H9.out.output, H9.out.size, H9.out.block⟩⟩
                | succ q =>
                  obtain ⟨t', ht', hlt⟩ := hprev q rfl
                  have r1 : wr.cell? ⟨b8, q, none⟩ = some (.int .i64 (t' : Int)) := by
                    rw [H9.out.cell (by exact HV8.out.1), (HV8.out.int q (by omega)).1, ht']
                  have hlt' : (t' : Int) < t := by omega
                  have hqs : (q : Int) < zs8.length := by omega
                  have d4 : decide ((0 : Int) < (q : Int) + 1) = true := decide_eq_true (by omega)
                  have d5 : decide ((t : Int) ≤ t') = false := by simp; omega
                  have d5' : decide (t ≤ t') = false := by simp; omega
                  have hqs' : (q : Int) + 1 < zs8.length := by omega
                  clear hprev ht'
                  go_wp2_with fail
                  go_quiet (fail)
                  go_wp2_with fail
                  go_roundg (zs8.length - (q + 1 + 1))
                  case measure => omega
                  case rel => exact ⟨q + 1 + 1, by omega, by go_num, by omega, ⟨H9.out.os, H9.out.tape, H9.out.output, H9.out.size, H9.out.block⟩⟩
              · go_wp2_with fail
                go_ret
                exact ⟨rfl, Hb5.out.trans (H59.out.mono Hb5.out.size)⟩
      · have hnil : hs = [] := by
          rcases Hans.out with ⟨a, b, _⟩ | ⟨_, b⟩
          · have hin : 0 ≤ f ∧ f < p.length := by simpa [inL] using b
            exact absurd ⟨hCR.2 a, hin.1, hin.2⟩ hmain
          · exact b
        subst hnil
        have HF : Hid (HdIs p f []) := HdIs.none Hans.out
        have hpick : C ≠ 0 ∨ (C = 0 ∧ f < 0) ∨ (C = 0 ∧ 0 ≤ f ∧ (p.length : Int) ≤ f) := by omega
        clear hmain hCR
        rcases hpick with hC | ⟨rfl, hf0⟩ | ⟨rfl, hf0, hfl⟩
        all_goals
          go_wp2_with fail
          refine (implHeaders _ p f _ (Ht.out.below Hb5.out) D5.out.1).mono ?_
          rintro e w6 ⟨u6, zs6, rfl, hu6, hh6, hb6⟩
          have hz6 := hh6.unique HF.out
          subst hz6
          obtain ⟨A6, cap6, rfl⟩ := hu6.form
          have Hb6 : Hid (Below w.heap.size w w6) := Hb5.out.trans (hb6.mono Hb5.out.size)
          clear hu6 hh6 hb6
          go_wp2_with fail
          go_ret
          exact ⟨by simp, Hb6.out⟩
  · go_enter Tryd.func3, Tryd.ntmps3
    go_wp2_with fail
    go_ret
    exact ⟨rfl, Below.refl _ _⟩
end Go.Proofs.YtpaiamcidpahpaaDoor
