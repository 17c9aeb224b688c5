/- spec.FileBytes. -/
import Derived.Test.YtfaameimocjaiaaDoorFileL
import Derived.Test.YtfaameimocjaiaaDoorSpecV
import Derived.Laws.Concat
namespace Go.Proofs.YtfaameimocjaiaaDoor
open Go.RowKit

set_option maxRecDepth 100000 in
set_option maxHeartbeats 6400000 in
theorem specFile (v : Value) (p : List FnM) (w : World) (hr : FnRow 0 w v p) (hp : ∀ g ∈ p, g.ok) :
    Calls Tryd.prog 7 #[.agg #[v]] w fun e w' => FbTold p w w' e := by
  have Hr : Hid (FnRow 0 w v p) := hr
  have Hp : Hid (∀ g ∈ p, g.ok) := hp
  obtain ⟨A, cap, rfl⟩ := hr.form
  clear hr hp
  have X0 : Hid (Box _ w.heap.size #[.slice A p.length cap]) := box_new w #[.slice A p.length cap] 29
  have X2 : Hid (Below w.heap.size w (w.alloc (.cells #[.slice A p.length cap] 29))) := (Below.refl _ _).alloc (Nat.le_refl _) _
  go_enter Tryd.func7, Tryd.ntmps7
  go_wp2_with fail
  refine (specRightP _ p _ (Hr.out.below X2.out) Hp.out).mono ?_
  rintro e w1 ⟨b, rfl, hb1, hiff⟩
  have Hb1 : Hid (Below w.heap.size w w1) := X2.out.trans (hb1.mono X2.out.size)
  have HB : Hid (Box w1 w.heap.size #[.slice A p.length cap]) := X0.out.below hb1
  have HR1 : Hid (FnRow 0 w1 (.slice A p.length cap) p) := Hr.out.below Hb1.out
  clear hb1 X0 X2
  cases b with
  | false =>
    have Hn : Hid (¬ RightP p) := fun h => by simpa using hiff.2 h
    clear hiff
    go_wp2_with fail
    go_ret
    exact ⟨_, rfl, Hb1.out, .inr ⟨Hn.out, rfl⟩⟩
  | true =>
    have hright := hiff.1 rfl
    have HRt : Hid (RightP p) := hright
    obtain ⟨hp1, hp6, hcode⟩ := hright.small
    have Hcode : Hid (∀ f ∈ p, f.code.length ≤ 60) := hcode
    obtain ⟨i0, hi, hz0, hz1, hz2⟩ := info_parts Tryd.infoU8
    have hBl := HB.out.1
    have HKc : Hid (∀ W, KeepT w1.heap.size w1 W → W.cell? ⟨w.heap.size, 0, none⟩ = some (.slice A p.length cap) ∧ w.heap.size < W.heap.size ∧ FnRow 0 W (.slice A p.length cap) p) := fun W hW => ⟨(HB.out.below hW.below).at0, (HB.out.below hW.below).1, HR1.out.below hW.below⟩
    clear hiff hright hcode
    obtain ⟨bf, offf, x0, rfl, -, -, -, -, -⟩ := HR1.out.at 0 (by omega)
    obtain ⟨mk, hmk⟩ : ∃ mk : List UInt8, mk = [74, 49] := ⟨_, rfl⟩
    have hmkl : mk.length = 2 := by rw [hmk]; rfl
    have O0 : Hid (Own8 w1.heap.size (w1.alloc (.cells #[.int .u8 74, .int .u8 49] 5)) (.slice (some ⟨w1.heap.size, 0, none⟩) 2 2) mk) := by rw [hmk]; exact own_mark w1
    have K0 : Hid (KeepT w1.heap.size w1 (w1.alloc (.cells #[.int .u8 74, .int .u8 49] 5))) := KeepT.of_below ((Below.refl _ _).alloc (Nat.le_refl _) _) (Nat.le_refl _)
    have Hmk : Hid (mk = [74, 49]) := hmk
    obtain ⟨c0, c1, -⟩ := HKc.out _ K0.out
    have hIp : I64 (p.length : Int) := by unfold I64; omega
    clear hmk
    go_wp2_with fail
    refine (specPut ((p.length : Int)) _ (hIp).1 (hIp).2).mono ?_
    rintro e a1 ⟨rfl, hb1⟩
    have P1 : Hid (Own8 w1.heap.size a1 (.slice (some ⟨w1.heap.size, 0, none⟩) 2 2) mk) := O0.out.keep hb1
    have hs1 : w1.heap.size ≤ a1.heap.size := Nat.le_trans (Nat.le_refl _) (Nat.le_trans K0.out.below.size hb1.size)
    have Q1 : Hid (KeepT w1.heap.size w1 a1) := K0.out.trans (KeepT.of_below hb1 (Nat.le_trans (Nat.le_refl _) K0.out.below.size))
    have hw1 : (⟨(Lib.uvarint (Lib.zigzag ((p.length : Int)))).toArray⟩ : ByteArray).size = (num ((p.length : Int))).length := by simp [ByteArray.size, num]
    have hn1 : (num ((p.length : Int))).length ≤ 10 := num_len (hIp)
    clear hb1 O0 K0
    go_wp2_with (at_builtin; refine Lib.wpList_append_own_string _ rfl _ _ 55 9 rfl w1.heap.size 5 i0 Tryd.underlying55 Tryd.underlying9 hi hz0 hz1 hz2 _ _ _ rfl P1.out _ rfl ?x1 ?y1 ?z1 ?_)
    case x1 => rw [hw1]; unfold maxLen; omega
    case y1 => rw [hw1]; omega
    case z1 => exact hs1
    intro v1 b1 hown hg hnil
    obtain ⟨m1, hm1⟩ : ∃ mm, mm = mk ++ num ((p.length : Int)) := ⟨_, rfl⟩
    have R1 : Hid (Own8 w1.heap.size b1 v1 m1) := by
      show b1.ownsRow w1.heap.size 5 1 v1 _ _
      rw [hm1, byteCells_app, List.length_append]
      first | (rw [strCells_mk] at hown; exact hown) | (rw [strCells_mk] at hown; rw [hmkl]; exact hown)
    have T1 : Hid (KeepT w1.heap.size w1 b1) := Q1.out.trans (KeepT.grown P1.out hg hs1)
    have hl1 : m1.length ≤ mk.length + 10 := by rw [hm1, List.length_append]; omega
    have HM1 : Hid (m1 = mk ++ num ((p.length : Int))) := hm1
    obtain ⟨Am1, cm1, rfl⟩ := R1.out.form
    clear hown hg hnil P1 Q1 hw1 hm1 hn1
    clear c0 c1
    have hm1l : m1.length ≤ 12 := by omega
    go_wp2_with fail
    go_loopg [3, 4] (p.length) (fun g y i wr => ∃ q : Nat, q ≤ p.length ∧ i = .int .i64 q ∧ p.length ≤ q + g ∧ (∃ m, m = m1 ++ (p.take q).flatMap fnB ∧ Own8 w1.heap.size wr y m) ∧ KeepT w1.heap.size w1 wr)
    case atStart => exact ⟨0, Nat.zero_le _, rfl, by omega, ⟨m1, by simp, R1.out⟩, T1.out⟩
    case round =>
      rename World => wo
      obtain ⟨q, hq, rfl, hqg, ⟨m, hm, ho⟩, hk⟩ := hrel
      have Hm : Hid (m = m1 ++ (p.take q).flatMap fnB) := hm
      have hml : m.length ≤ 8000 := by
        have h := fnsB_len (p.take q) (fun f hf => ⟨Hp.out f (List.mem_of_mem_take hf), Hcode.out f (List.mem_of_mem_take hf)⟩)
        have h2 : (p.take q).length ≤ 6 := by simp; omega
        rw [hm, List.length_append]; omega
      have OO : Hid (Own8 w1.heap.size wo u3 m) := ho
      have KK : Hid (KeepT w1.heap.size w1 wo) := hk
      obtain ⟨Am, cm, rfl⟩ := ho.form
      obtain ⟨c0, c1, hrow⟩ := HKc.out wo hk
      clear hm ho hk
      by_cases hql : q < p.length
      · have hql' : (q : Int) < p.length := by omega
        obtain ⟨bf', of', x, hA, hltf, e0, e1, e2, hx⟩ := hrow.at q hql
        simp only [Option.some.injEq, Addr.mk.injEq, and_true] at hA
        obtain ⟨rfl, rfl⟩ := hA
        obtain ⟨f, hf⟩ : ∃ f, f = p[q] := ⟨_, rfl⟩
        rw [← hf] at e0 e1 hx
        have hfok : f.ok := by rw [hf]; exact Hp.out _ (List.getElem_mem hql)
        have hfl : f.code.length ≤ 60 := by rw [hf]; exact Hcode.out _ (List.getElem_mem hql)
        have Hf : Hid (f = p[q]) := hf
        have Hfok : Hid f.ok := hfok
        obtain ⟨Ac, capc, rfl⟩ := hx.form
        obtain ⟨ar, har⟩ : ∃ ar, ar = f.args := ⟨_, rfl⟩
        obtain ⟨lo, hlo⟩ : ∃ lo, lo = f.locals := ⟨_, rfl⟩
        obtain ⟨cd, hcd⟩ : ∃ cd, cd = f.code := ⟨_, rfl⟩
        rw [← har] at e0
        rw [← hlo] at e1
        rw [← hcd] at e2 hx hfl
        have hIa : I64 ar := by rw [har]; exact hfok.1
        have hIl : I64 lo := by rw [hlo]; exact hfok.2.1
        have hIc : I64 (cd.length : Int) := by unfold I64; omega
        have HIcd : Hid (∀ i ∈ cd, I64 i.1 ∧ I64 i.2) := by show ∀ i ∈ cd, I64 i.1 ∧ I64 i.2; rw [hcd]; exact hfok.2.2
        have HfB : Hid (fnB p[q] = nums [ar, lo, (cd.length : Int)] ++ insB cd) := by show fnB p[q] = _; rw [← hf, har, hlo, hcd]; rfl
        obtain ⟨wf, hwf⟩ : ∃ wf, wf = wo.alloc (.cells #[.int .i64 ar, .int .i64 lo, .slice Ac cd.length capc] 59) := ⟨_, rfl⟩
        have hal : Below wo.heap.size wo wf := by rw [hwf]; exact (Below.refl _ _).alloc (Nat.le_refl _) _
        have Hty : Hid (wf.heap[wo.heap.size]? = some (Obj.cells #[.int .i64 ar, .int .i64 lo, .slice Ac cd.length capc] 59 (0, 0))) := by show wf.heap[wo.heap.size]? = _; rw [hwf]; exact heap_alloc_new wo _
        have OF : Hid (Own8 w1.heap.size wf (.slice Am m.length cm) m) := OO.out.keep hal
        have KF : Hid (KeepT w1.heap.size wf wf) := KeepT.refl _ _
        have KW : Hid (KeepT w1.heap.size w1 wf) := KK.out.trans (KeepT.of_below hal KK.out.below.size)
        have hbw : w1.heap.size ≤ wf.heap.size := KW.out.below.size
        obtain ⟨bf'', of'', x'', hA'', hltw, -, -, e2w, -⟩ := HR1.out.at q hql
        simp only [Option.some.injEq, Addr.mk.injEq, and_true] at hA''
        obtain ⟨rfl, rfl⟩ := hA''
        have e2x : wo.cell? ⟨bf, offf + q * 3 + 2, none⟩ = some x'' := by rw [KK.out.below.cell (by exact hltw)]; exact e2w
        rw [e2] at e2x
        simp only [Option.some.injEq] at e2x
        subst e2x
        have Hcd : Hid (cd = f.code) := hcd
        have HFc : Hid (∀ W, KeepT w1.heap.size wf W → (W.cell? ⟨wo.heap.size, 0, none⟩ = some (.int .i64 ar) ∧ W.cell? ⟨wo.heap.size, 1, none⟩ = some (.int .i64 lo) ∧ W.cell? ⟨wo.heap.size, 2, none⟩ = some (.slice Ac cd.length capc)) ∧ wo.heap.size < W.heap.size ∧ InsRow 0 W (.slice Ac cd.length capc) cd ∧ (W.cell? ⟨w.heap.size, 0, none⟩ = some (.slice (some ⟨bf, offf, none⟩) p.length cap) ∧ w.heap.size < W.heap.size)) := fun W hW => by
          have hT := hW.typed wo.heap.size _ _ _ (by decide) Hty.out
          have hKW := KW.out.trans hW
          obtain ⟨k0, k1, krow⟩ := HKc.out W hKW
          refine ⟨⟨by simp [World.cell?, hT], by simp [World.cell?, hT], by simp [World.cell?, hT]⟩, (Array.getElem?_eq_some_iff.1 hT).1, ?_, k0, k1⟩
          obtain ⟨bf', of', x, hA, -, -, -, e2', hx'⟩ := krow.at q hql
          simp only [Option.some.injEq, Addr.mk.injEq, and_true] at hA
          obtain ⟨rfl, rfl⟩ := hA
          have hc2 : W.cell? ⟨bf, offf + q * 3 + 2, none⟩ = some (.slice Ac cd.length capc) := by rw [hKW.below.cell (by exact hltw)]; exact e2w
          rw [hc2] at e2'
          simp only [Option.some.injEq] at e2'
          rw [← e2', ← Hf.out, ← Hcd.out] at hx'
          exact hx'
        obtain ⟨⟨g0, g1, g2⟩, g3, -, -⟩ := HFc.out wf (KeepT.refl _ _)
        clear har hlo hcd hf hfok hx hrow OO hal g0 g1 g2 g3
        go_wp2_with fail
        try rw [← hwf]
        go_wp2_with fail
        refine (specPut (ar) _ (hIa).1 (hIa).2).mono ?_
        rintro e a2 ⟨rfl, hb2⟩
        have P2 : Hid (Own8 w1.heap.size a2 (.slice Am m.length cm) m) := OF.out.keep hb2
        have hs2 : w1.heap.size ≤ a2.heap.size := Nat.le_trans (hbw) (Nat.le_trans KF.out.below.size hb2.size)
        have Q2 : Hid (KeepT w1.heap.size wf a2) := KF.out.trans (KeepT.of_below hb2 (Nat.le_trans (hbw) KF.out.below.size))
        have hw2 : (⟨(Lib.uvarint (Lib.zigzag (ar))).toArray⟩ : ByteArray).size = (num (ar)).length := by simp [ByteArray.size, num]
        have hn2 : (num (ar)).length ≤ 10 := num_len (hIa)
        clear hb2 OF KF
        go_wp2_with (at_builtin; refine Lib.wpList_append_own_string _ rfl _ _ 55 9 rfl w1.heap.size 5 i0 Tryd.underlying55 Tryd.underlying9 hi hz0 hz1 hz2 _ _ _ rfl P2.out _ rfl ?x2 ?y2 ?z2 ?_)
        case x2 => rw [hw2]; unfold maxLen; omega
        case y2 => rw [hw2]; omega
        case z2 => exact hs2
        intro v2 b2 hown hg hnil
        obtain ⟨m2, hm2⟩ : ∃ mm, mm = m ++ num (ar) := ⟨_, rfl⟩
        have R2 : Hid (Own8 w1.heap.size b2 v2 m2) := by
          show b2.ownsRow w1.heap.size 5 1 v2 _ _
          rw [hm2, byteCells_app, List.length_append]
          first | (rw [strCells_mk] at hown; exact hown) | (rw [hw2, strCells_mk] at hown; exact hown)
        have T2 : Hid (KeepT w1.heap.size wf b2) := Q2.out.trans (KeepT.grown P2.out hg hs2)
        have hl2 : m2.length ≤ m.length + 10 := by rw [hm2, List.length_append]; omega
        have HM2 : Hid (m2 = m ++ num (ar)) := hm2
        obtain ⟨Am2, cm2, rfl⟩ := R2.out.form
        clear hown hg hnil P2 Q2 hw2 hm2 hn2
        obtain ⟨⟨-, g1, -⟩, g3, -, -⟩ := HFc.out b2 T2.out
        go_wp2_with fail
        refine (specPut (lo) _ (hIl).1 (hIl).2).mono ?_
        rintro e a3 ⟨rfl, hb3⟩
        have P3 : Hid (Own8 w1.heap.size a3 (.slice Am2 m2.length cm2) m2) := R2.out.keep hb3
        have hs3 : w1.heap.size ≤ a3.heap.size := Nat.le_trans (hbw) (Nat.le_trans T2.out.below.size hb3.size)
        have Q3 : Hid (KeepT w1.heap.size wf a3) := T2.out.trans (KeepT.of_below hb3 (Nat.le_trans (hbw) T2.out.below.size))
        have hw3 : (⟨(Lib.uvarint (Lib.zigzag (lo))).toArray⟩ : ByteArray).size = (num (lo)).length := by simp [ByteArray.size, num]
        have hn3 : (num (lo)).length ≤ 10 := num_len (hIl)
        clear hb3 R2 T2
        go_wp2_with (at_builtin; refine Lib.wpList_append_own_string _ rfl _ _ 55 9 rfl w1.heap.size 5 i0 Tryd.underlying55 Tryd.underlying9 hi hz0 hz1 hz2 _ _ _ rfl P3.out _ rfl ?x3 ?y3 ?z3 ?_)
        case x3 => rw [hw3]; unfold maxLen; omega
        case y3 => rw [hw3]; omega
        case z3 => exact hs3
        intro v3 b3 hown hg hnil
        obtain ⟨m3, hm3⟩ : ∃ mm, mm = m2 ++ num (lo) := ⟨_, rfl⟩
        have R3 : Hid (Own8 w1.heap.size b3 v3 m3) := by
          show b3.ownsRow w1.heap.size 5 1 v3 _ _
          rw [hm3, byteCells_app, List.length_append]
          first | (rw [strCells_mk] at hown; exact hown) | (rw [hw3, strCells_mk] at hown; exact hown)
        have T3 : Hid (KeepT w1.heap.size wf b3) := Q3.out.trans (KeepT.grown P3.out hg hs3)
        have hl3 : m3.length ≤ m2.length + 10 := by rw [hm3, List.length_append]; omega
        have HM3 : Hid (m3 = m2 ++ num (lo)) := hm3
        obtain ⟨Am3, cm3, rfl⟩ := R3.out.form
        clear hown hg hnil P3 Q3 hw3 hm3 hn3
        obtain ⟨⟨-, -, g2⟩, g3, -, -⟩ := HFc.out b3 T3.out
        go_wp2_with fail
        refine (specPut ((cd.length : Int)) _ (hIc).1 (hIc).2).mono ?_
        rintro e a4 ⟨rfl, hb4⟩
        have P4 : Hid (Own8 w1.heap.size a4 (.slice Am3 m3.length cm3) m3) := R3.out.keep hb4
        have hs4 : w1.heap.size ≤ a4.heap.size := Nat.le_trans (hbw) (Nat.le_trans T3.out.below.size hb4.size)
        have Q4 : Hid (KeepT w1.heap.size wf a4) := T3.out.trans (KeepT.of_below hb4 (Nat.le_trans (hbw) T3.out.below.size))
        have hw4 : (⟨(Lib.uvarint (Lib.zigzag ((cd.length : Int)))).toArray⟩ : ByteArray).size = (num ((cd.length : Int))).length := by simp [ByteArray.size, num]
        have hn4 : (num ((cd.length : Int))).length ≤ 10 := num_len (hIc)
        clear hb4 R3 T3
        go_wp2_with (at_builtin; refine Lib.wpList_append_own_string _ rfl _ _ 55 9 rfl w1.heap.size 5 i0 Tryd.underlying55 Tryd.underlying9 hi hz0 hz1 hz2 _ _ _ rfl P4.out _ rfl ?x4 ?y4 ?z4 ?_)
        case x4 => rw [hw4]; unfold maxLen; omega
        case y4 => rw [hw4]; omega
        case z4 => exact hs4
        intro v4 b4 hown hg hnil
        obtain ⟨m4, hm4⟩ : ∃ mm, mm = m3 ++ num ((cd.length : Int)) := ⟨_, rfl⟩
        have R4 : Hid (Own8 w1.heap.size b4 v4 m4) := by
          show b4.ownsRow w1.heap.size 5 1 v4 _ _
          rw [hm4, byteCells_app, List.length_append]
          first | (rw [strCells_mk] at hown; exact hown) | (rw [hw4, strCells_mk] at hown; exact hown)
        have T4 : Hid (KeepT w1.heap.size wf b4) := Q4.out.trans (KeepT.grown P4.out hg hs4)
        have hl4 : m4.length ≤ m3.length + 10 := by rw [hm4, List.length_append]; omega
        have HM4 : Hid (m4 = m3 ++ num ((cd.length : Int))) := hm4
        obtain ⟨Am4, cm4, rfl⟩ := R4.out.form
        clear hown hg hnil P4 Q4 hw4 hm4 hn4
        clear g1 g2 g3
        go_wp2_with fail
        go_loopg [3, 6] (cd.length) (fun g y i wr => ∃ j : Nat, j ≤ cd.length ∧ i = .int .i64 j ∧ cd.length ≤ j + g ∧ (∃ mm, mm = m4 ++ insB (cd.take j) ∧ Own8 w1.heap.size wr y mm) ∧ KeepT w1.heap.size wf wr)
        case atStart => exact ⟨0, Nat.zero_le _, rfl, by omega, ⟨m4, by simp [insB], R4.out⟩, T4.out⟩
        case round =>
          obtain ⟨j, hj, rfl, hjg, ⟨n0, hn0, ho⟩, hk⟩ := hrel
          have Hn0 : Hid (n0 = m4 ++ insB (cd.take j)) := hn0
          have hnl : n0.length ≤ 10000 := by
            have h := insB_len (cd.take j) (fun i hi => HIcd.out i (List.mem_of_mem_take hi))
            have h2 : (cd.take j).length ≤ 60 := by simp; omega
            rw [hn0, List.length_append]; omega
          have ON : Hid (Own8 w1.heap.size wr u3 n0) := ho
          have KN : Hid (KeepT w1.heap.size wf wr) := hk
          obtain ⟨An0, cn0, rfl⟩ := ho.form
          obtain ⟨⟨-, -, g2⟩, g3, gins, -⟩ := HFc.out wr hk
          clear hn0 ho hk
          by_cases hjl : j < cd.length
          · obtain ⟨bi, oi, hAc, hlti, s0, s1⟩ := gins.at j hjl
            subst hAc
            obtain ⟨op, hop⟩ : ∃ op, op = cd[j].1 := ⟨_, rfl⟩
            obtain ⟨a, ha⟩ : ∃ a, a = cd[j].2 := ⟨_, rfl⟩
            rw [← hop] at s0
            rw [← ha] at s1
            have hIo : I64 op := by rw [hop]; exact (HIcd.out _ (List.getElem_mem hjl)).1
            have hIA : I64 a := by rw [ha]; exact (HIcd.out _ (List.getElem_mem hjl)).2
            have Hop : Hid (op = cd[j].1 ∧ a = cd[j].2) := ⟨hop, ha⟩
            have hjl' : (j : Int) < cd.length := by omega
            clear hop ha gins
            go_wp2_with fail
            refine (specPut (op) _ (hIo).1 (hIo).2).mono ?_
            rintro e a5 ⟨rfl, hb5⟩
            have P5 : Hid (Own8 w1.heap.size a5 (.slice An0 n0.length cn0) n0) := ON.out.keep hb5
            have hs5 : w1.heap.size ≤ a5.heap.size := Nat.le_trans (hbw) (Nat.le_trans KN.out.below.size hb5.size)
            have Q5 : Hid (KeepT w1.heap.size wf a5) := KN.out.trans (KeepT.of_below hb5 (Nat.le_trans (hbw) KN.out.below.size))
            have hw5 : (⟨(Lib.uvarint (Lib.zigzag (op))).toArray⟩ : ByteArray).size = (num (op)).length := by simp [ByteArray.size, num]
            have hn5 : (num (op)).length ≤ 10 := num_len (hIo)
            clear hb5 ON KN
            go_wp2_with (at_builtin; refine Lib.wpList_append_own_string _ rfl _ _ 55 9 rfl w1.heap.size 5 i0 Tryd.underlying55 Tryd.underlying9 hi hz0 hz1 hz2 _ _ _ rfl P5.out _ rfl ?x5 ?y5 ?z5 ?_)
            case x5 => rw [hw5]; unfold maxLen; omega
            case y5 => rw [hw5]; omega
            case z5 => exact hs5
            intro v5 b5 hown hg hnil
            obtain ⟨n1, hm5⟩ : ∃ mm, mm = n0 ++ num (op) := ⟨_, rfl⟩
            have R5 : Hid (Own8 w1.heap.size b5 v5 n1) := by
              show b5.ownsRow w1.heap.size 5 1 v5 _ _
              rw [hm5, byteCells_app, List.length_append]
              first | (rw [strCells_mk] at hown; exact hown) | (rw [hw5, strCells_mk] at hown; exact hown)
            have T5 : Hid (KeepT w1.heap.size wf b5) := Q5.out.trans (KeepT.grown P5.out hg hs5)
            have hl5 : n1.length ≤ n0.length + 10 := by rw [hm5, List.length_append]; omega
            have HM5 : Hid (n1 = n0 ++ num (op)) := hm5
            obtain ⟨An1, cn1, rfl⟩ := R5.out.form
            clear hown hg hnil P5 Q5 hw5 hm5 hn5
            obtain ⟨⟨-, -, g2⟩, g3, gins, -⟩ := HFc.out b5 T5.out
            obtain ⟨bi', oi', hAc, hlti, -, s1⟩ := gins.at j hjl
            simp only [Option.some.injEq, Addr.mk.injEq, and_true] at hAc
            obtain ⟨rfl, rfl⟩ := hAc
            rw [← Hop.out.2] at s1
            clear gins
            go_wp2_with fail
            refine (specPut (a) _ (hIA).1 (hIA).2).mono ?_
            rintro e a6 ⟨rfl, hb6⟩
            have P6 : Hid (Own8 w1.heap.size a6 (.slice An1 n1.length cn1) n1) := R5.out.keep hb6
            have hs6 : w1.heap.size ≤ a6.heap.size := Nat.le_trans (hbw) (Nat.le_trans T5.out.below.size hb6.size)
            have Q6 : Hid (KeepT w1.heap.size wf a6) := T5.out.trans (KeepT.of_below hb6 (Nat.le_trans (hbw) T5.out.below.size))
            have hw6 : (⟨(Lib.uvarint (Lib.zigzag (a))).toArray⟩ : ByteArray).size = (num (a)).length := by simp [ByteArray.size, num]
            have hn6 : (num (a)).length ≤ 10 := num_len (hIA)
            clear hb6 R5 T5
            go_wp2_with (at_builtin; refine Lib.wpList_append_own_string _ rfl _ _ 55 9 rfl w1.heap.size 5 i0 Tryd.underlying55 Tryd.underlying9 hi hz0 hz1 hz2 _ _ _ rfl P6.out _ rfl ?x6 ?y6 ?z6 ?_)
            case x6 => rw [hw6]; unfold maxLen; omega
            case y6 => rw [hw6]; omega
            case z6 => exact hs6
            intro v6 b6 hown hg hnil
            obtain ⟨n2, hm6⟩ : ∃ mm, mm = n1 ++ num (a) := ⟨_, rfl⟩
            have R6 : Hid (Own8 w1.heap.size b6 v6 n2) := by
              show b6.ownsRow w1.heap.size 5 1 v6 _ _
              rw [hm6, byteCells_app, List.length_append]
              first | (rw [strCells_mk] at hown; exact hown) | (rw [hw6, strCells_mk] at hown; exact hown)
            have T6 : Hid (KeepT w1.heap.size wf b6) := Q6.out.trans (KeepT.grown P6.out hg hs6)
            have hl6 : n2.length ≤ n1.length + 10 := by rw [hm6, List.length_append]; omega
            have HM6 : Hid (n2 = n1 ++ num (a)) := hm6
            obtain ⟨An2, cn2, rfl⟩ := R6.out.form
            clear hown hg hnil P6 Q6 hw6 hm6 hn6
            have He : Hid (n2 = m4 ++ insB (cd.take (j + 1))) := by
              show n2 = _
              rw [insB_take cd j hjl, ← Hop.out.1, ← Hop.out.2, HM6.out, HM5.out, Hn0.out]
              simp [nums]
            go_wp2_with fail
            go_roundg (cd.length - (j + 1))
            case measure => omega
            case rel => exact ⟨j + 1, by omega, by go_num, by omega, ⟨n2, He.out, R6.out⟩, T6.out⟩
          · have hje : j = cd.length := by omega
            subst hje
            have He : Hid (n0 = m1 ++ (p.take (q + 1)).flatMap fnB) := by
              show n0 = _
              rw [fnsB_take p q hql, HfB.out, Hn0.out, List.take_length, HM4.out, HM3.out, HM2.out, Hm.out]
              simp [nums]
            go_wp2_with fail
            go_roundg (p.length - (q + 1))
            case measure => omega
            case rel => exact ⟨q + 1, by omega, by go_num, by omega, ⟨n0, He.out, ON.out⟩, KW.out.trans KN.out⟩
      · have hqe : q = p.length := by omega
        subst hqe
        have hmp : m = prgB p := by rw [Hm.out, List.take_length, HM1.out, Hmk.out]; simp [prgB, nums]
        have Hmp : Hid (m = prgB p) := hmp
        have hm0 : 0 < m.length := by rw [hmp]; simp [prgB]
        have hcv := own8_text OO.out hm0
        have hsb : 0 ≤ sumS ⟨m.toArray⟩ ∧ sumS ⟨m.toArray⟩ < 4294967291 := by
          unfold sumS
          split
          · exact sumB_bd _
          · omega
        obtain ⟨sm, hsm⟩ : ∃ sm, sm = sumS ⟨m.toArray⟩ := ⟨_, rfl⟩
        rw [← hsm] at hsb
        have Hsm : Hid (sm = sumS ⟨m.toArray⟩) := hsm
        have hIs : I64 sm := by unfold I64; omega
        clear hmp hsm hrow
        go_wp2_with fail
        refine (specSum ⟨m.toArray⟩ _ (by simp [ByteArray.size]; unfold maxLen; omega)).mono ?_
        rintro e w3 ⟨rfl, hw3⟩
        subst w3
        rw [← Hsm.out]
        go_wp2_with fail
        refine (specPut sm _ hIs.1 hIs.2).mono ?_
        rintro e w4 ⟨rfl, hb4⟩
        have H4 : Hid (Below w.heap.size w w4) := Hb1.out.trans ((KK.out.below.trans (hb4.mono KK.out.below.size)).mono Hb1.out.size)
        clear hb4 hcv
        have hns : (num sm).length ≤ 10 := num_len hIs
        have hadd := run_string_add_lists (P := Tryd.prog) (w := w4) m (Lib.uvarint (Lib.zigzag sm)) (by omega) (by have : (num sm).length = (Lib.uvarint (Lib.zigzag sm)).length := rfl; omega)
        go_wp2_with fail
        go_ret
        refine ⟨_, rfl, H4.out, .inl ⟨HRt.out, ?_⟩⟩
        rw [fileB, ← Hmp.out, ← Hsm.out]
        simp [nums, num]
end Go.Proofs.YtfaameimocjaiaaDoor
