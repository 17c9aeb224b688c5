/- The generator of drawn programs: l03Spoil. -/
import Derived.Test.YtljhoplcfoiiiaaDoorGenSq
namespace Go.Proofs.YtljhoplcfoiiiaaDoor
open Go.RowKit

set_option maxRecDepth 100000 in
set_option maxHeartbeats 12800000 in
theorem genSpoil {B s P base bF capF : Nat} (w : World) (fs : List GF) (h : Sp B s P base w (.slice (some ⟨bF, 0, none⟩) fs.length capF) fs) (ha : Apart fs) (h1 : 1 ≤ fs.length) (h3 : fs.length ≤ 3) (hc : ∀ f ∈ fs, 1 ≤ f.code.length ∧ f.code.length ≤ 10000) :
    Calls Tryd.prog 62 #[.pointer (some ⟨s, 0, none⟩), .pointer (some ⟨P, 0, none⟩)] w fun e w' => e = .returned (.tuple #[]) ∧ PrgOk B s P base w' ∧ Chg s P w w' := by
  have H : Hid (Sp B s P base w (.slice (some ⟨bF, 0, none⟩) fs.length capF) fs) := h
  have HA : Hid (Apart fs) := ha
  have HC : Hid (∀ f ∈ fs, 1 ≤ f.code.length ∧ f.code.length ≤ 10000) := hc
  have Hd := h.drew
  have HD : Hid (Sp B s P base w.drew (.slice (some ⟨bF, 0, none⟩) fs.length capF) fs) := Hd
  obtain ⟨p0, -, pl, -, -, -, -, -, -, -, -, -⟩ := h.at 0 (by omega)
  clear h ha hc Hd
  go_enter Tryd.func62, Tryd.ntmps62
  go_upto_region 0 with fail
  go_cut [4] (fun x wc => ∃ i, i < fs.length ∧ x = .pointer (some ⟨bF, i * 3, none⟩) ∧ Sp B s P base wc (.slice (some ⟨bF, 0, none⟩) fs.length capF) fs ∧ Chg s P w wc)
  case first =>
    go_region_with (go_at_call 40; refine (spN _ _ HD.out (by omega)).mono ?_; rintro e w1 ⟨r, rfl, hr0, hr1, hS, hC⟩; obtain ⟨i, rfl⟩ := Int.eq_ofNat_of_zero_le hr0; have hi : (i : Int) < fs.length := by omega
                    obtain ⟨q0, -, ql, -, -, -, -, -, -, -, -, -⟩ := hS.at 0 (by omega))
    all_goals
      go_wp2_with fail
      go_meet
      exact ⟨i, by omega, rfl, hS, (Chg.drew s P w).trans hC⟩
  case rest =>
    obtain ⟨i, hi, rfl, hS, hC⟩ := hcut
    have G0 : Hid (Sp B s P base wc (.slice (some ⟨bF, 0, none⟩) fs.length capF) fs) := hS
    have C0 : Hid (Chg s P w wc) := hC
    have A0 := hS.at i hi
    obtain ⟨f, hf⟩ : ∃ f, f = fs[i] := ⟨_, rfl⟩
    obtain ⟨hc1, hc2⟩ := HC.out fs[i] (List.getElem_mem hi)
    have Hf : Hid (f = fs[i]) := hf
    rw [← hf] at A0 hc1 hc2
    have x0 := A0.c2
    unfold GF.sl at x0
    have x1 := A0.bl
    clear A0 hS hC p0 pl H HD hf
    go_wp2_with fail
    refine (spN _ _ G0.out (by omega)).mono ?_
    rintro e w2 ⟨k, rfl, hk0, hk1, hS, hC⟩
    obtain ⟨k, rfl⟩ := Int.eq_ofNat_of_zero_le hk0
    have hk : k < f.code.length := by omega
    have hk' : (k : Int) < f.code.length := by omega
    have G2 : Hid (Sp B s P base w2 (.slice (some ⟨bF, 0, none⟩) fs.length capF) fs) := hS
    have C2 : Hid (Chg s P w w2) := C0.out.trans hC
    clear hS hC x0 x1 hk0 hk1 G0 C0
    go_wp2_with fail
    refine (spN _ _ G2.out (by omega)).mono ?_
    rintro e w3 ⟨r, rfl, hr0, hr1, hS, hC⟩
    have hr8 : r < 8 := by omega
    have G3 : Hid (Sp B s P base w3 (.slice (some ⟨bF, 0, none⟩) fs.length capF) fs) := hS
    have C3 : Hid (Chg s P w w3) := C2.out.trans hC
    have A3 := hS.at i hi
    rw [← Hf.out] at A3
    obtain ⟨q0, qf, ql, qb, a0, a1, a2, g0, g1, g2, ql2, acode⟩ := A3
    obtain ⟨⟨z0, y0⟩, ⟨z1, y1⟩, y2, y3⟩ := acode k hk
    unfold GF.sl at a2
    have Hd3 := hS.drew
    have HD3 : Hid (Sp B s P base w3.drew (.slice (some ⟨bF, 0, none⟩) fs.length capF) fs) := Hd3
    have Hk : Hid (k < f.code.length) := hk
    have Hi : Hid (i < fs.length) := hi
    clear hS hC hr1 Hd3 acode
    by_cases e0 : r = 0
    · subst e0
      go_wp2_with fail
      go_region_with (go_at_call 40; refine (spN _ _ HD3.out (by omega)).mono ?_; rintro e w4 ⟨q, rfl, hq0, hq1, hS, hC⟩; have hq2 : q < 42 := by omega
                      obtain ⟨n0, nf, nl, nb, b0, b1, b2, -, -, -, nl2, bcode⟩ := (Hf.out ▸ hS.at i Hi.out : SpAt w4 P bF i (.slice (some ⟨bF, 0, none⟩) fs.length capF) f)
                      obtain ⟨⟨m0, v0⟩, ⟨m1, v1⟩, v2, v3⟩ := bcode k Hk.out
                      unfold GF.sl at b2)
      all_goals
        go_wp2_with fail
        go_end0
        have e := Hf.out
        subst e
        first | (have y := hS.endOp HA.out i Hi.out k Hk.out (q - 1) (by unfold I64; omega) h1 h3; exact ⟨rfl, y.1, C3.out.trans ((Chg.drew s P w3).trans (hC.trans y.2))⟩) | (have y := hS.endOp HA.out i Hi.out k Hk.out (IntKind.i64.wrap (q - 1)) (i64_wrap _) h1 h3; exact ⟨rfl, y.1, C3.out.trans ((Chg.drew s P w3).trans (hC.trans y.2))⟩)
    by_cases e1 : r = 1
    · subst e1
      go_wp2_with fail
      go_region_with (go_at_call 40; refine (spN _ _ HD3.out (by omega)).mono ?_; rintro e w4 ⟨q, rfl, hq0, hq1, hS, hC⟩; have hq2 : q < 70 := by omega
                      obtain ⟨n0, nf, nl, nb, b0, b1, b2, -, -, -, nl2, bcode⟩ := (Hf.out ▸ hS.at i Hi.out : SpAt w4 P bF i (.slice (some ⟨bF, 0, none⟩) fs.length capF) f)
                      obtain ⟨⟨m0, v0⟩, ⟨m1, v1⟩, v2, v3⟩ := bcode k Hk.out
                      unfold GF.sl at b2)
      all_goals
        go_wp2_with fail
        go_end0
        have e := Hf.out
        subst e
        first | (have y := hS.endA HA.out i Hi.out k Hk.out (q - 2) (by unfold I64; omega) h1 h3; exact ⟨rfl, y.1, C3.out.trans ((Chg.drew s P w3).trans (hC.trans y.2))⟩) | (have y := hS.endA HA.out i Hi.out k Hk.out (IntKind.i64.wrap (q - 2)) (i64_wrap _) h1 h3; exact ⟨rfl, y.1, C3.out.trans ((Chg.drew s P w3).trans (hC.trans y.2))⟩)
    by_cases e2 : r = 2
    · subst e2
      go_wp2_with fail
      refine (spN _ _ G3.out (by omega)).mono ?_
      rintro e w4 ⟨q, rfl, hq0, hq1, hS, hC⟩
      have hq2 : q < 7 := by omega
      obtain ⟨n0, nf, nl, nb, b0, b1, b2, f0, f1, f2, nl2, bcode⟩ := (Hf.out ▸ hS.at i Hi.out : SpAt w4 P bF i (.slice (some ⟨bF, 0, none⟩) fs.length capF) f)
      have HS : Hid (Sp B s P base w4 (.slice (some ⟨bF, 0, none⟩) fs.length capF) fs) := hS
      have HC4 : Hid (Chg s P w w4) := C3.out.trans hC
      clear bcode hS hC q0 qf ql a0 a1 a2 g0 g1 g2 y0 y1 y2 y3 ql2 qb
      unfold GF.sl at b2
      go_wp2_with fail
      go_end0
      have e := Hf.out
      subst e
      have y := HS.out.endArgs i Hi.out (q - 1) (by unfold I64; omega) (by omega) h1 h3
      exact ⟨rfl, y.1, HC4.out.trans y.2⟩
    by_cases e3 : r = 3
    · subst e3
      have HL : Hid (Sp B s P base (w3.alloc (.cells locs 2)) (.slice (some ⟨bF, 0, none⟩) fs.length capF) fs) := G3.out.alloc _
      clear q0 qf ql a0 a1 a2 g0 g1 g2 y0 y1 y2 y3 ql2 qb
      have hsl := G3.out.src.2.1
      go_wp2_with fail
      refine (srcN B s 4 _ HL.out.src (by omega)).mono ?_
      rintro e w4 ⟨q, rfl, hq0, hq1, hSr, hGr⟩
      obtain ⟨q, rfl⟩ := Int.eq_ofNat_of_zero_le hq0
      have hq : q < 4 := by omega
      have hq4 : (q : Int) < 4 := by omega
      obtain ⟨x, hx, hxI⟩ := locs_at q hq
      have hcell : w4.cell? ⟨w3.heap.size, q, none⟩ = some (.int .i64 x) := (cell_behind hsl hGr q).trans hx
      have hS := HL.out.drawn hGr hSr
      have HS : Hid (Sp B s P base w4 (.slice (some ⟨bF, 0, none⟩) fs.length capF) fs) := hS
      have HC4 : Hid (Chg s P w w4) := C3.out.trans ((Chg.alloc w3 _ (Nat.le_of_lt G3.out.cell.1)).trans (Chg.of_src hGr (by have := G3.out.cell.1; simp; omega)))
      have HxI : Hid (I64 x) := hxI
      obtain ⟨n0, nf, nl, nb, b0, b1, b2, f0, f1, f2, nl2, bcode⟩ := (Hf.out ▸ hS.at i Hi.out : SpAt w4 P bF i (.slice (some ⟨bF, 0, none⟩) fs.length capF) f)
      clear bcode hS hSr hGr hx hxI hq1
      unfold GF.sl at b2
      go_wp2_with fail
      go_end0
      have e := Hf.out
      subst e
      have q := HS.out.endLoc i Hi.out x HxI.out h1 h3
      exact ⟨rfl, q.1, HC4.out.trans q.2⟩
    by_cases e4 : r = 4
    · subst e4
      have hkc : k ≤ f.cap := by
        have hx := (G3.out.fns.each fs[i] (List.getElem_mem Hi.out)).1.2
        have hk2 := Hk.out
        rw [Hf.out] at hk2 ⊢
        rcases hx with ⟨e, _⟩ | ⟨g, cap, cur, e, _, _, hn, _⟩
        · simp [GF.sl] at e
        · simp only [GF.sl, Value.slice.injEq, true_and] at e
          omega
      go_wp2_with fail
      go_end0
      have e := Hf.out
      subst e
      have q := G3.out.endCut i Hi.out k Hk.out h1 h3
      exact ⟨rfl, q.1, C3.out.trans q.2⟩
    by_cases e5 : r = 5
    · subst e5
      have HO : Hid (w3.ownsRow base 65 2 (.slice (some ⟨f.b, 0, none⟩) f.code.length f.cap) f.code.length (insCells f.code)) := by show w3.ownsRow base 65 2 (.slice (some ⟨f.b, 0, none⟩) f.code.length f.cap) f.code.length (insCells f.code); rw [Hf.out]; exact (G3.out.fns.each fs[i] (List.getElem_mem hi)).1
      obtain ⟨i0, hti, hz0, hz1, hz2⟩ := info_parts Tryd.infoIns
      have hbs : base ≤ w3.heap.size := by have := G3.out.fns.lt fs[i] (List.getElem_mem hi); omega
      go_wp2_with (at_builtin; refine wpList_append_lies _ rfl _ _ 54 rfl base 65 i0 (.agg #[.int .i64 0, .int .i64 0]) 2 16 Tryd.underlying54 hti hz0 hz1 hz2 rfl (by decide) _ _ _ rfl (HO.out.alloc _) ⟨w3.heap.size, 0, none⟩ 1 1 [Value.int .i64 5, Value.int .i64 0] rfl rfl ?c1 ?c2 ?c3 ?c4 ?c5 ?c6 _ rfl ?_)
      case c1 =>
        intro j u hj
        rw [Addr.add_lit, Nat.zero_add, World.cell?_alloc_mark]
        simpa using hj
      case c2 => intro u hu; simp at hu; rcases hu with rfl | rfl <;> rfl
      case c3 => omega
      case c4 => unfold maxLen; omega
      case c5 => omega
      case c6 => simp; omega
      intro g cap w4 hown hg hor hlt
      clear hor q0 qf ql a0 a1 a2 g0 g1 g2 y0 y1 y2 y3 ql2 qb hlt
      have e := Hf.out
      subst e
      obtain ⟨⟨⟨u0, u1⟩, u2⟩, u3, u4⟩ := G3.out.endApp HA.out i Hi.out hg hown hc2 h1 h3
      have U3 : Hid (PrgOk B s P base (w4.setCell ⟨bF, i * 3 + 2, none⟩ (.slice (some ⟨g, 0, none⟩) (fs[i].code.length + 1) cap))) := u3
      have U4 : Hid (Chg s P w3 (w4.setCell ⟨bF, i * 3 + 2, none⟩ (.slice (some ⟨g, 0, none⟩) (fs[i].code.length + 1) cap))) := u4
      clear u3 u4 hown hg
      go_wp2_with fail
      go_end0
      exact ⟨rfl, U3.out, C3.out.trans U4.out⟩
    by_cases e6 : r = 6
    · subst e6
      go_wp2_with fail
      go_region_with (go_at_call 40; refine (spN _ _ HD3.out (by omega)).mono ?_; rintro e w4 ⟨q, rfl, hq0, hq1, hS, hC⟩; have hq2 : q < f.code.length := by omega
                      obtain ⟨n0, nf, nl, nb, b0, b1, b2, -, -, -, nl2, bcode⟩ := (Hf.out ▸ hS.at i Hi.out : SpAt w4 P bF i (.slice (some ⟨bF, 0, none⟩) fs.length capF) f)
                      obtain ⟨⟨m0, v0⟩, ⟨m1, v1⟩, v2, v3⟩ := bcode k Hk.out
                      unfold GF.sl at b2)
      all_goals
        go_wp2_with fail
        go_end0
        have e := Hf.out
        subst e
        have q := hS.endIns HA.out i Hi.out k Hk.out 30 q (by unfold I64; omega) (by unfold I64; omega) h1 h3
        exact ⟨rfl, q.1, C3.out.trans ((Chg.drew s P w3).trans (hC.trans q.2))⟩
    obtain rfl : r = 7 := by omega
    clear e0 e1 e2 e3 e4 e5 e6 q0 qf ql a0 a1 a2 g0 g1 g2 y0 y1 y2 y3 ql2 qb HD3 G2 C2
    obtain ⟨i0, hti, hz0, hz1, hz2⟩ := info_parts Tryd.infoFn
    go_wp2_with fail
    go_loopg [] 7 (fun gk wr => ∃ (gs : List GF) (bG capG : Nat), Sp B s P base wr (.slice (some ⟨bG, 0, none⟩) gs.length capG) gs ∧ 1 ≤ gs.length ∧ gs.length ≤ 7 ∧ 7 ≤ gs.length + gk ∧ Chg s P w wr)
    case atStart => exact ⟨fs, bF, capF, G3.out, h1, by omega, by omega, C3.out⟩
    case round =>
      obtain ⟨gs, bG, capG, hS, n1, n7, ng, hC⟩ := hrel
      have n0 : 0 < gs.length := n1
      have GC : Hid (Chg s P w wr) := hC
      have Hd := hS.drew
      have GD : Hid (Sp B s P base wr.drew (.slice (some ⟨bG, 0, none⟩) gs.length capG) gs) := Hd
      obtain ⟨v0, -, vl, -, -, -, -, -, -, -, -, -⟩ := hS.at 0 (by omega)
      clear Hd hS hC
      go_wp2_with fail
      go_region_with (go_at_call 40; refine (spN _ _ GD.out (by omega)).mono ?_; rintro e w4 ⟨q, rfl, hq0, hq1, hS4, hC4⟩; have hq2 : q < 2 := by omega
                      obtain ⟨x0, -, xl, xb, x1, x2, x3, -, -, -, -, -⟩ := hS4.at 0 (by omega))
      all_goals
        have GS4 : Hid (Sp B s P base w4.drew (.slice (some ⟨bG, 0, none⟩) gs.length capG) gs) := hS4.drew
        have GT4 : Hid (Sp B s P base w4 (.slice (some ⟨bG, 0, none⟩) gs.length capG) gs) := hS4
        have GC4 : Hid (Chg s P w w4) := GC.out.trans ((Chg.drew s P wr).trans hC4)
        simp only [Nat.zero_mul, Nat.zero_add] at x1 x2 x3
        clear hS4 hC4 v0 vl
        have hwq : IntKind.i64.wrap (6 + q) = 6 + q := by rw [IntKind.wrap_i64]; omega
        have Hw : Hid (IntKind.i64.wrap (6 + q) = 6 + q) := hwq
        clear hwq
        by_cases hlt : (gs.length : Int) < IntKind.i64.wrap (6 + q)
        · have Hlt : Hid (gs.length ≤ 6) := by have := Hw.out; show gs.length ≤ 6; omega
          obtain ⟨f, hf⟩ : ∃ f, f = gs[0] := ⟨_, rfl⟩
          rw [← hf] at x1 x2 x3
          have HF : Hid (f = gs[0]) := hf
          unfold GF.sl at x3
          clear hf
          go_wp2_with fail
          go_region_law (refine step_append_lies _ rfl (.tmp 40) (.tmp 47) 23 rfl base 56 i0 (.agg #[.int .i64 0, .int .i64 0, .slice none 0 0]) 3 40 Tryd.underlying23 hti hz0 hz1 hz2 rfl (by decide) (.slice (some ⟨bG, 0, none⟩) gs.length capG) gs.length (fnCells gs) (by simp [Act.eval]) (GS4.out.fns.row.alloc _) ⟨w4.heap.size, 0, none⟩ 1 1 [.int .i64 f.args, .int .i64 f.locals, .slice (some ⟨f.b, 0, none⟩) f.code.length f.cap] (by simp [Act.eval]) rfl (by intro j u hj; rw [Addr.add_lit, Nat.zero_add]; exact (World.cell?_alloc_mark w4.drew _ _ (0, 0) j).trans (by simpa using hj)) (by intro u hu; simp at hu; rcases hu with rfl | rfl | rfl <;> rfl) (by omega) (by have := Hlt.out; unfold maxLen; omega) (by have := Hlt.out; omega) (by have := (GT4.out.fns.row.lt bG rfl).1; simp; omega) _ rfl ?_; intro g cap w5 hown hg hor hl5; obtain ⟨⟨t0, t1, t2⟩, t3, t4⟩ := GS4.out.app f hg hown (by rw [HF.out]; exact GS4.out.fns.each gs[0] (List.getElem_mem (by omega))); have T3 : Hid (Sp B s P base (w5.setCell ⟨P, 0, none⟩ (.slice (some ⟨g, 0, none⟩) (gs.length + 1) cap)) (.slice (some ⟨g, 0, none⟩) (gs.length + 1) cap) (gs ++ [f])) := t3; have T4 : Hid (Chg s P w4.drew (w5.setCell ⟨P, 0, none⟩ (.slice (some ⟨g, 0, none⟩) (gs.length + 1) cap))) := t4; clear hown hg hor hl5 t3 t4)
          all_goals
            go_wp2_with fail
            go_roundg (7 - (gs.length + 1))
            case measure => have := Hlt.out; omega
            case rel =>
              refine ⟨gs ++ [f], g, cap, ?_, by simp, by have := Hlt.out; simp; omega, by simp; omega, GC4.out.trans ((Chg.drew s P w4).trans T4.out)⟩
              have := T3.out
              simpa using this
        · go_wp2_with fail
          go_end0
          exact ⟨rfl, GT4.out.done n1 n7, GC4.out⟩
end Go.Proofs.YtljhoplcfoiiiaaDoor
