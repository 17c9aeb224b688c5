/- impl.FileBytes. -/
import Derived.Test.YtfaameimocjaiaaDoorFileL
import Derived.Test.YtfaameimocjaiaaDoorAppM
import Derived.Lib.SmallJoins
namespace Go.Proofs.YtfaameimocjaiaaDoor
open Go.RowKit

set_option maxRecDepth 100000 in
set_option maxHeartbeats 6400000 in
theorem implFile (v : Value) (p : List FnM) (w : World) (ht : Tab w) (hr : FnRow 0 w v p) (hp : ∀ g ∈ p, g.ok) :
    Calls Tryd.prog 9 #[.agg #[v]] w fun e w' => FbTold p w w' e := by
  have Hr : Hid (FnRow 0 w v p) := hr
  have Hp : Hid (∀ g ∈ p, g.ok) := hp
  have Ht : Hid (Tab w) := ht
  obtain ⟨A, cap, rfl⟩ := hr.form
  clear hr hp ht
  have X0 : Hid (Box _ w.heap.size #[.slice A p.length cap]) := box_new w #[.slice A p.length cap] 29
  have X2 : Hid (Below w.heap.size w (w.alloc (.cells #[.slice A p.length cap] 29))) := (Below.refl _ _).alloc (Nat.le_refl _) _
  have hfc := fieldCode
  go_enter Tryd.func9, Tryd.ntmps9
  go_wp2_with fail
  refine (implVerify _ p _ (Ht.out.below X2.out) (Hr.out.below X2.out)).mono ?_
  rintro e w1 ⟨F, A2, C, rfl, hb1, h1, h2⟩
  have hiff : C = 0 ↔ RightP p := verTold_right h1 h2
  have Hb1 : Hid (Below w.heap.size w w1) := X2.out.trans (hb1.mono X2.out.size)
  have HB : Hid (Box w1 w.heap.size #[.slice A p.length cap]) := X0.out.below hb1
  have HR1 : Hid (FnRow 0 w1 (.slice A p.length cap) p) := Hr.out.below Hb1.out
  clear hb1 X0 X2 h1 h2
  by_cases hC : C = 0
  · have hright := hiff.1 hC
    subst hC
    have HRt : Hid (RightP p) := hright
    obtain ⟨hp1, hp6, hcode⟩ := hright.small
    have Hcode : Hid (∀ f ∈ p, f.code.length ≤ 60) := hcode
    have HKc : Hid (∀ W, KeepT w1.heap.size w1 W → W.cell? ⟨w.heap.size, 0, none⟩ = some (.slice A p.length cap) ∧ w.heap.size < W.heap.size ∧ FnRow 0 W (.slice A p.length cap) p) := fun W hW => ⟨(HB.out.below hW.below).at0, (HB.out.below hW.below).1, HR1.out.below hW.below⟩
    clear hiff hright hcode
    obtain ⟨bf, offf, x0, rfl, -, -, -, -, -⟩ := HR1.out.at 0 (by omega)
    have hcv := Go.Joins.run_convert_bytes_const_at (P := Tryd.prog) w1 55 5 #[.int .u8 74, .int .u8 49] 2 2 w1.heap.size rfl Tryd.underlying55 Tryd.underlying5
    obtain ⟨c0, c1, -⟩ := HKc.out _ (KeepT.refl _ _)
    obtain ⟨mk, hmk⟩ : ∃ mk : List UInt8, mk = [74, 49] := ⟨_, rfl⟩
    have Hmk : Hid (mk = [74, 49]) := hmk
    have hmkl : mk.length = 2 := by rw [hmk]; rfl
    obtain ⟨wm, hwm⟩ : ∃ wm, wm = (w1.alloc (.cells #[.int .u8 74, .int .u8 49] 5 (2, 3))).alloc (.cells #[.int .i64 (p.length : Int)] 2) := ⟨_, rfl⟩
    have hm1 : Below w1.heap.size w1 wm := by rw [hwm]; exact ((Below.refl _ _).alloc (Nat.le_refl _) _).alloc (by simp) _
    have HM1 : Hid (Below w1.heap.size w1 wm) := hm1
    have hcm : ∀ j (h : j < mk.length), wm.cell? ⟨w1.heap.size, j, none⟩ = some (.int .u8 (mk[j].toNat : Int)) := by
      intro j hj
      rw [hwm, World.cell?_alloc_past _ _ _ (by simp), World.cell?_alloc_mark]
      subst hmk
      match j, hj with
      | 0, _ => rfl
      | 1, _ => rfl
    have hbn : wm.cell? ⟨w1.heap.size + 1, 0, none⟩ = some (.int .i64 (p.length : Int)) := by
      have h := World.cell?_alloc_mark (w1.alloc (.cells #[.int .u8 74, .int .u8 49] 5 (2, 3))) #[.int .i64 (p.length : Int)] 2 (0, 0) 0
      rw [hwm]
      simp at h ⊢
    have hbl : w1.heap.size + 1 < wm.heap.size := by rw [hwm]; simp
    have hIp : I64 (p.length : Int) := by unfold I64; omega
    have HA1 := implAppend1 (B := w1.heap.size) w1.heap.size mk (w1.heap.size + 1) 1 (p.length : Int) wm hcm hbn hbl hIp (by omega) hm1.size
    have HA : Hid (Calls Tryd.prog 30 #[.slice (some ⟨w1.heap.size, 0, none⟩) mk.length mk.length, .slice (some ⟨w1.heap.size + 1, 0, none⟩) 1 1] wm fun e w' => ∃ y', e = .returned y' ∧ Own8 w1.heap.size w' y' (mk ++ num (p.length : Int)) ∧ Below wm.heap.size wm w') := HA1
    rw [hmkl] at HA
    clear HA1 hm1 hcm hbn hbl hmk
    go_wp2_with fail
    rw [← hwm]
    refine HA.out.mono ?_
    rintro e w2 ⟨y', rfl, ho, hb2⟩
    obtain ⟨m1, hm1⟩ : ∃ m1, m1 = mk ++ num (p.length : Int) := ⟨_, rfl⟩
    have HMm : Hid (m1 = mk ++ num (p.length : Int)) := hm1
    have hm1l : m1.length ≤ 12 := by rw [hm1, List.length_append, hmkl]; have := num_len hIp; omega
    rw [← hm1] at ho
    have R1 : Hid (Own8 w1.heap.size w2 y' m1) := ho
    have T1 : Hid (KeepT w1.heap.size w1 w2) := KeepT.of_below (HM1.out.trans (hb2.mono HM1.out.size)) (Nat.le_refl _)
    obtain ⟨Am1, cm1, rfl⟩ := ho.form
    clear ho hb2 hm1 hwm HA HM1 hcv c0 c1
    obtain ⟨c0, c1, -⟩ := HKc.out _ T1.out
    go_wp2_with fail
    go_loopg [3, 22] (p.length) (fun g y i wr => ∃ q : Nat, q ≤ p.length ∧ i = .int .i64 q ∧ p.length ≤ q + g ∧ (∃ m, m = m1 ++ (p.take q).flatMap fnB ∧ Own8 w1.heap.size wr y m) ∧ KeepT w1.heap.size w1 wr)
    case atStart => exact ⟨0, Nat.zero_le _, rfl, by omega, ⟨m1, by simp, R1.out⟩, T1.out⟩
    case round =>
      clear c0 c1
      rename World => wo
      obtain ⟨q, hq, rfl, hqg, ⟨m, hm, ho⟩, hk⟩ := hrel
      have Hm : Hid (m = m1 ++ (p.take q).flatMap fnB) := hm
      have hml : m.length ≤ 8000 := by
        have h := fnsB_len (p.take q) (fun f hf => ⟨Hp.out f (List.mem_of_mem_take hf), Hcode.out f (List.mem_of_mem_take hf)⟩)
        have h2 : (p.take q).length ≤ 6 := by simp; omega
        rw [hm, List.length_append]; omega
      have OO : Hid (Own8 w1.heap.size wo u3 m) := ho
      have KK : Hid (KeepT w1.heap.size w1 wo) := hk
      obtain ⟨Am, cm, rfl⟩ := ho.form
      obtain ⟨c0, c1, hrow⟩ := HKc.out wo hk
      clear hm ho hk
      by_cases hql : q < p.length
      · have hql' : (q : Int) < p.length := by omega
        obtain ⟨bf', of', x, hA, hltf, e0, e1, e2, hx⟩ := hrow.at q hql
        simp only [Option.some.injEq, Addr.mk.injEq, and_true] at hA
        obtain ⟨rfl, rfl⟩ := hA
        obtain ⟨f, hf⟩ : ∃ f, f = p[q] := ⟨_, rfl⟩
        rw [← hf] at e0 e1 hx
        have hfok : f.ok := by rw [hf]; exact Hp.out _ (List.getElem_mem hql)
        have hfl : f.code.length ≤ 60 := by rw [hf]; exact Hcode.out _ (List.getElem_mem hql)
        have Hf : Hid (f = p[q]) := hf
        obtain ⟨Ac, capc, rfl⟩ := hx.form
        obtain ⟨ar, har⟩ : ∃ ar, ar = f.args := ⟨_, rfl⟩
        obtain ⟨lo, hlo⟩ : ∃ lo, lo = f.locals := ⟨_, rfl⟩
        obtain ⟨cd, hcd⟩ : ∃ cd, cd = f.code := ⟨_, rfl⟩
        rw [← har] at e0
        rw [← hlo] at e1
        rw [← hcd] at e2 hx hfl
        have hIa : I64 ar := by rw [har]; exact hfok.1
        have hIl : I64 lo := by rw [hlo]; exact hfok.2.1
        have hIc : I64 (cd.length : Int) := by unfold I64; omega
        have HIcd : Hid (∀ i ∈ cd, I64 i.1 ∧ I64 i.2) := by show ∀ i ∈ cd, I64 i.1 ∧ I64 i.2; rw [hcd]; exact hfok.2.2
        have HfB : Hid (fnB p[q] = nums [ar, lo, (cd.length : Int)] ++ insB cd) := by show fnB p[q] = _; rw [← hf, har, hlo, hcd]; rfl
        obtain ⟨wf, hwf⟩ : ∃ wf, wf = wo.alloc (.cells #[.int .i64 ar, .int .i64 lo, .slice Ac cd.length capc] 59) := ⟨_, rfl⟩
        have hal : Below wo.heap.size wo wf := by rw [hwf]; exact (Below.refl _ _).alloc (Nat.le_refl _) _
        have Hty : Hid (wf.heap[wo.heap.size]? = some (Obj.cells #[.int .i64 ar, .int .i64 lo, .slice Ac cd.length capc] 59 (0, 0))) := by show wf.heap[wo.heap.size]? = _; rw [hwf]; exact heap_alloc_new wo _
        have OF : Hid (Own8 w1.heap.size wf (.slice Am m.length cm) m) := OO.out.keep hal
        have KW : Hid (KeepT w1.heap.size w1 wf) := KK.out.trans (KeepT.of_below hal KK.out.below.size)
        have hbw : w1.heap.size ≤ wf.heap.size := KW.out.below.size
        obtain ⟨bf'', of'', x'', hA'', hltw, -, -, e2w, -⟩ := HR1.out.at q hql
        simp only [Option.some.injEq, Addr.mk.injEq, and_true] at hA''
        obtain ⟨rfl, rfl⟩ := hA''
        have e2x : wo.cell? ⟨bf, offf + q * 3 + 2, none⟩ = some x'' := by rw [KK.out.below.cell (by exact hltw)]; exact e2w
        rw [e2] at e2x
        simp only [Option.some.injEq] at e2x
        subst e2x
        have Hcd : Hid (cd = f.code) := hcd
        have HFc : Hid (∀ W, KeepT w1.heap.size wf W → (W.cell? ⟨wo.heap.size, 0, none⟩ = some (.int .i64 ar) ∧ W.cell? ⟨wo.heap.size, 1, none⟩ = some (.int .i64 lo) ∧ W.cell? ⟨wo.heap.size, 2, none⟩ = some (.slice Ac cd.length capc)) ∧ wo.heap.size < W.heap.size ∧ InsRow 0 W (.slice Ac cd.length capc) cd ∧ (W.cell? ⟨w.heap.size, 0, none⟩ = some (.slice (some ⟨bf, offf, none⟩) p.length cap) ∧ w.heap.size < W.heap.size)) := fun W hW => by
          have hT := hW.typed wo.heap.size _ _ _ (by decide) Hty.out
          have hKW := KW.out.trans hW
          obtain ⟨k0, k1, krow⟩ := HKc.out W hKW
          refine ⟨⟨by simp [World.cell?, hT], by simp [World.cell?, hT], by simp [World.cell?, hT]⟩, (Array.getElem?_eq_some_iff.1 hT).1, ?_, k0, k1⟩
          obtain ⟨bf', of', x, hA, -, -, -, e2', hx'⟩ := krow.at q hql
          simp only [Option.some.injEq, Addr.mk.injEq, and_true] at hA
          obtain ⟨rfl, rfl⟩ := hA
          have hc2 : W.cell? ⟨bf, offf + q * 3 + 2, none⟩ = some (.slice Ac cd.length capc) := by rw [hKW.below.cell (by exact hltw)]; exact e2w
          rw [hc2] at e2'
          simp only [Option.some.injEq] at e2'
          rw [← e2', ← Hf.out, ← Hcd.out] at hx'
          exact hx'
        obtain ⟨⟨g0, g1, g2⟩, g3, -, -⟩ := HFc.out wf (KeepT.refl _ _)
        have HL := appendLit (B := w1.heap.size) (.slice Am m.length cm) m [ar, lo, (cd.length : Int)] wf 3 OF.out (fun z hz => by simp at hz; rcases hz with rfl | rfl | rfl; exact hIa; exact hIl; exact hIc) (by omega) (by simp) hbw
        have HLh : Hid (Calls Tryd.prog 30 #[.slice Am m.length cm, .slice (some ⟨wf.heap.size, 0, none⟩) 3 3] (wf.alloc (.cells #[.int .i64 ar, .int .i64 lo, .int .i64 (cd.length : Int)] 2)) fun e w' => ∃ y', e = .returned y' ∧ Own8 w1.heap.size w' y' (m ++ nums [ar, lo, (cd.length : Int)]) ∧ KeepT w1.heap.size wf w') := HL
        have hwfs : wf.heap.size = wo.heap.size + 1 := by rw [hwf]; simp
        rw [hwfs] at HLh
        clear har hlo hcd hf hfok hx hrow OO hal g0 g1 g2 g3 HL
        go_wp2_with fail
        rw [← hwf]
        refine HLh.out.mono ?_
        rintro e a1 ⟨y1, rfl, ho1, hk1⟩
        obtain ⟨m4, hm4⟩ : ∃ m4, m4 = m ++ nums [ar, lo, (cd.length : Int)] := ⟨_, rfl⟩
        have HM4 : Hid (m4 = m ++ nums [ar, lo, (cd.length : Int)]) := hm4
        have hm4l : m4.length ≤ 8030 := by
          have h := nums_len [ar, lo, (cd.length : Int)] (fun z hz => by simp at hz; rcases hz with rfl | rfl | rfl; exact hIa; exact hIl; exact hIc)
          rw [hm4, List.length_append]; simp at h; omega
        rw [← hm4] at ho1
        have R4 : Hid (Own8 w1.heap.size a1 y1 m4) := ho1
        have T4 : Hid (KeepT w1.heap.size wf a1) := hk1
        obtain ⟨Am4, cm4, rfl⟩ := ho1.form
        obtain ⟨⟨-, -, g2⟩, g3, -, -⟩ := HFc.out a1 hk1
        clear ho1 hk1 hm4 HLh hwf
        go_wp2_with fail
        go_loopg [3, 39] (cd.length) (fun g y i wr => ∃ j : Nat, j ≤ cd.length ∧ i = .int .i64 j ∧ cd.length ≤ j + g ∧ (∃ mm, mm = m4 ++ insB (cd.take j) ∧ Own8 w1.heap.size wr y mm) ∧ KeepT w1.heap.size wf wr)
        case atStart => exact ⟨0, Nat.zero_le _, rfl, by omega, ⟨m4, by simp [insB], R4.out⟩, T4.out⟩
        case round =>
          clear g2 g3
          obtain ⟨j, hj, rfl, hjg, ⟨n0, hn0, ho⟩, hk⟩ := hrel
          have Hn0 : Hid (n0 = m4 ++ insB (cd.take j)) := hn0
          have hnl : n0.length ≤ 10000 := by
            have h := insB_len (cd.take j) (fun i hi => HIcd.out i (List.mem_of_mem_take hi))
            have h2 : (cd.take j).length ≤ 60 := by simp; omega
            rw [hn0, List.length_append]; omega
          have ON : Hid (Own8 w1.heap.size wr u3 n0) := ho
          have KN : Hid (KeepT w1.heap.size wf wr) := hk
          obtain ⟨An0, cn0, rfl⟩ := ho.form
          obtain ⟨⟨-, -, g2⟩, g3, gins, -⟩ := HFc.out wr hk
          clear hn0 ho hk
          by_cases hjl : j < cd.length
          · obtain ⟨bi, oi, hAc, hlti, s0, s1⟩ := gins.at j hjl
            subst hAc
            obtain ⟨op, hop⟩ : ∃ op, op = cd[j].1 := ⟨_, rfl⟩
            obtain ⟨a, ha⟩ : ∃ a, a = cd[j].2 := ⟨_, rfl⟩
            rw [← hop] at s0
            rw [← ha] at s1
            have hIo : I64 op := by rw [hop]; exact (HIcd.out _ (List.getElem_mem hjl)).1
            have hIA : I64 a := by rw [ha]; exact (HIcd.out _ (List.getElem_mem hjl)).2
            have Hop : Hid (op = cd[j].1 ∧ a = cd[j].2) := ⟨hop, ha⟩
            have hjl' : (j : Int) < cd.length := by omega
            obtain ⟨wi, hwi⟩ : ∃ wi, wi = wr.alloc (.cells #[.int .i64 op, .int .i64 a] 61) := ⟨_, rfl⟩
            have hali : Below wr.heap.size wr wi := by rw [hwi]; exact (Below.refl _ _).alloc (Nat.le_refl _) _
            have hwr : w1.heap.size ≤ wr.heap.size := Nat.le_trans hbw KN.out.below.size
            have KI : Hid (KeepT w1.heap.size wf wi) := KN.out.trans (KeepT.of_below hali hwr)
            have HL := appendLit (B := w1.heap.size) (.slice An0 n0.length cn0) n0 [op, a] wi 2 (ON.out.keep hali) (fun z hz => by simp at hz; rcases hz with rfl | rfl; exact hIo; exact hIA) (by omega) (by simp) (Nat.le_trans hwr hali.size)
            have HLh : Hid (Calls Tryd.prog 30 #[.slice An0 n0.length cn0, .slice (some ⟨wi.heap.size, 0, none⟩) 2 2] (wi.alloc (.cells #[.int .i64 op, .int .i64 a] 2)) fun e w' => ∃ y', e = .returned y' ∧ Own8 w1.heap.size w' y' (n0 ++ nums [op, a]) ∧ KeepT w1.heap.size wi w') := HL
            have hwis : wi.heap.size = wr.heap.size + 1 := by rw [hwi]; simp
            rw [hwis] at HLh
            clear hop ha gins HL hali
            go_wp2_with fail
            rw [← hwi]
            refine HLh.out.mono ?_
            rintro e a5 ⟨y5, rfl, ho5, hk5⟩
            have He : Hid (n0 ++ nums [op, a] = m4 ++ insB (cd.take (j + 1))) := by
              show n0 ++ nums [op, a] = _
              rw [insB_take cd j hjl, ← Hop.out.1, ← Hop.out.2, Hn0.out]
              simp [nums]
            obtain ⟨n2, hn2⟩ : ∃ n2, n2 = n0 ++ nums [op, a] := ⟨_, rfl⟩
            rw [← hn2] at He ho5
            have R5 : Hid (Own8 w1.heap.size a5 y5 n2) := ho5
            have T5 : Hid (KeepT w1.heap.size wf a5) := KI.out.trans hk5
            obtain ⟨Am5, cm5, rfl⟩ := ho5.form
            clear ho5 hk5 HLh hwi hn2
            go_wp2_with fail
            go_roundg (cd.length - (j + 1))
            case measure => omega
            case rel => exact ⟨j + 1, by omega, by go_num, by omega, ⟨_, He.out, R5.out⟩, T5.out⟩
          · have hje : j = cd.length := by omega
            subst hje
            have He : Hid (n0 = m1 ++ (p.take (q + 1)).flatMap fnB) := by
              show n0 = _
              rw [fnsB_take p q hql, HfB.out, Hn0.out, List.take_length, HM4.out, Hm.out]
              simp [nums]
            go_wp2_with fail
            go_roundg (p.length - (q + 1))
            case measure => omega
            case rel => exact ⟨q + 1, by omega, by go_num, by omega, ⟨n0, He.out, ON.out⟩, KW.out.trans KN.out⟩
      · have hqe : q = p.length := by omega
        subst hqe
        have hmp : m = prgB p := by rw [Hm.out, List.take_length, HMm.out, Hmk.out]; simp [prgB, nums]
        have Hmp : Hid (m = prgB p) := hmp
        have hm0 : 0 < m.length := by rw [hmp]; simp [prgB]
        have hcv := own8_text OO.out hm0
        have hsb : 0 ≤ sumS ⟨m.toArray⟩ ∧ sumS ⟨m.toArray⟩ < 4294967291 := by
          unfold sumS
          split
          · exact sumB_bd _
          · omega
        obtain ⟨sm, hsm⟩ : ∃ sm, sm = sumS ⟨m.toArray⟩ := ⟨_, rfl⟩
        rw [← hsm] at hsb
        have Hsm : Hid (sm = sumS ⟨m.toArray⟩) := hsm
        have hIs : I64 sm := by unfold I64; omega
        clear hmp hsm hrow
        go_wp2_with fail
        refine (implSum ⟨m.toArray⟩ _ (by simp [ByteArray.size]; unfold maxLen; omega)).mono ?_
        rintro e w3 ⟨rfl, hw3⟩
        subst w3
        rw [← Hsm.out]
        have HL := appendLit (B := w1.heap.size) (.slice Am m.length cm) m [sm] wo 1 OO.out (fun z hz => by simp at hz; rcases hz with rfl; exact hIs) (by omega) (by simp) KK.out.below.size
        have HLh : Hid (Calls Tryd.prog 30 #[.slice Am m.length cm, .slice (some ⟨wo.heap.size, 0, none⟩) 1 1] (wo.alloc (.cells #[.int .i64 sm] 2)) fun e w' => ∃ y', e = .returned y' ∧ Own8 w1.heap.size w' y' (m ++ nums [sm]) ∧ KeepT w1.heap.size wo w') := HL
        clear HL hcv
        go_wp2_with fail
        refine HLh.out.mono ?_
        rintro e w4 ⟨y4, rfl, ho4, hk4⟩
        have H4 : Hid (Below w.heap.size w w4) := Hb1.out.trans ((KK.out.below.trans hk4.below).mono Hb1.out.size)
        obtain ⟨m9, hm9⟩ : ∃ m9, m9 = m ++ nums [sm] := ⟨_, rfl⟩
        have HM9 : Hid (m9 = m ++ nums [sm]) := hm9
        rw [← hm9] at ho4
        have hcv2 := own8_text ho4 (by rw [hm9, List.length_append]; omega)
        obtain ⟨A4, c4, rfl⟩ := ho4.form
        clear ho4 hk4 HLh hm9
        go_wp2_with fail
        go_ret
        refine ⟨_, rfl, H4.out, .inl ⟨HRt.out, ?_⟩⟩
        rw [fileB, ← Hmp.out, ← Hsm.out, HM9.out]
  · have Hn : Hid (¬ RightP p) := fun h => hC (hiff.2 h)
    have hC' : (C != 0) = true := by simpa using hC
    clear hiff
    go_wp2_with fail
    go_ret
    exact ⟨_, rfl, Hb1.out, .inr ⟨Hn.out, rfl⟩⟩
end Go.Proofs.YtfaameimocjaiaaDoor
