/- spec.StateSame. -/
import Derived.Test.YtfaameimocjaiaaSameN
namespace Go.Proofs.Ytfaameimocjaiaa
open Go.RowKit

set_option maxRecDepth 100000 in
set_option maxHeartbeats 3200000 in
theorem specSameSt {B C : Nat} (x y z x' y' z' : Value) (a b : StM) (w : World) (hr : StRow B w x y z a) (ht : StRow C w x' y' z' b) :
    Calls Try.prog 5 #[stV x y z a, stV x' y' z' b] w fun e w' => e = .returned (.bool (decide (a = b))) ∧ Below w.heap.size w w' := by
  obtain ⟨h1, h2, h3⟩ := hr
  obtain ⟨k1, k2, k3⟩ := ht
  have H1 : Hid (FrRow B w x a.frames) := h1
  have H2 : Hid (ArrRow B w y a.heap) := h2
  have H3 : Hid (IRow B w z a.out) := h3
  have K1 : Hid (FrRow C w x' b.frames) := k1
  have K2 : Hid (ArrRow C w y' b.heap) := k2
  have K3 : Hid (IRow C w z' b.out) := k3
  obtain ⟨A1, c1, rfl⟩ := h1.form
  obtain ⟨A2, c2, rfl⟩ := h2.form
  obtain ⟨A3, c3, rfl⟩ := h3.form
  obtain ⟨D1, e1, rfl⟩ := k1.form
  obtain ⟨D2, e2, rfl⟩ := k2.form
  obtain ⟨D3, e3, rfl⟩ := k3.form
  clear h1 h2 h3 k1 k2 k3
  unfold stV
  obtain ⟨fr, hp, ot, fu, dn, va, tr⟩ := a
  obtain ⟨fr', hp', ot', fu', dn', va', tr'⟩ := b
  dsimp only at H1 H2 H3 K1 K2 K3 ⊢
  obtain ⟨p0, p1, p2⟩ := boxes_new w #[.slice A1 fr.length c1, .slice A2 hp.length c2, .slice A3 ot.length c3, .int .i64 fu, .bool dn, .int .i64 va, .int .i64 tr] #[.slice D1 fr'.length e1, .slice D2 hp'.length e2, .slice D3 ot'.length e3, .int .i64 fu', .bool dn', .int .i64 va', .int .i64 tr'] 31 31
  have X0 : Hid (Box _ w.heap.size #[.slice A1 fr.length c1, .slice A2 hp.length c2, .slice A3 ot.length c3, .int .i64 fu, .bool dn, .int .i64 va, .int .i64 tr]) := p0
  have X1 : Hid (Box _ (w.heap.size + 1) #[.slice D1 fr'.length e1, .slice D2 hp'.length e2, .slice D3 ot'.length e3, .int .i64 fu', .bool dn', .int .i64 va', .int .i64 tr']) := p1
  have X2 : Hid (Below w.heap.size w _) := p2
  clear p0 p1 p2
  have hl1 := H1.out.len
  have hl2 := K1.out.len
  by_cases hln : fr.length = fr'.length
  case neg =>
    have hne : ((fr.length : Int) != (fr'.length : Int)) = true := by simpa using (show ¬ (fr.length : Int) = (fr'.length : Int) by omega)
    have HT : Hid (decide ((⟨fr, hp, ot, fu, dn, va, tr⟩ : StM) = ⟨fr', hp', ot', fu', dn', va', tr'⟩) = false) := by
      show decide _ = false
      simp only [decide_eq_false_iff_not, StM.mk.injEq]
      exact fun h => hln (by rw [h.1])
    clear X0 X1
    go_enter Try.func5, Try.ntmps5
    go_wp2_with fail
    go_ret
    exact ⟨by first | (rw [HT.out]; rfl) | rw [HT.out], X2.out⟩
  have Hln : Hid (fr.length = fr'.length) := hln
  rw [hln] at X0 X1 X2 H1 ⊢
  clear hln hl1
  by_cases hfu : fu = fu'
  case neg =>
    have hne : (fu != fu') = true := by simpa using hfu
    have HT : Hid (decide ((⟨fr, hp, ot, fu, dn, va, tr⟩ : StM) = ⟨fr', hp', ot', fu', dn', va', tr'⟩) = false) := by show decide _ = false; simp [hfu]
    clear X0 X1
    go_enter Try.func5, Try.ntmps5
    go_wp2_with fail
    go_ret
    exact ⟨by first | (rw [HT.out]; rfl) | rw [HT.out], X2.out⟩
  subst fu'
  by_cases hdn : dn = dn'
  case neg =>
    have hne : (dn != dn') = true := by simpa using hdn
    have HT : Hid (decide ((⟨fr, hp, ot, fu, dn, va, tr⟩ : StM) = ⟨fr', hp', ot', fu, dn', va', tr'⟩) = false) := by show decide _ = false; simp [hdn]
    clear X0 X1
    go_enter Try.func5, Try.ntmps5
    go_wp2_with fail
    go_ret
    exact ⟨by first | (rw [HT.out]; rfl) | rw [HT.out], X2.out⟩
  subst dn'
  by_cases hva : va = va'
  case neg =>
    have hne : (va != va') = true := by simpa using hva
    have HT : Hid (decide ((⟨fr, hp, ot, fu, dn, va, tr⟩ : StM) = ⟨fr', hp', ot', fu, dn, va', tr'⟩) = false) := by show decide _ = false; simp [hva]
    clear X0 X1
    go_enter Try.func5, Try.ntmps5
    go_wp2_with fail
    go_ret
    exact ⟨by first | (rw [HT.out]; rfl) | rw [HT.out], X2.out⟩
  subst va'
  by_cases htr : tr = tr'
  case neg =>
    have hne : (tr != tr') = true := by simpa using htr
    have HT : Hid (decide ((⟨fr, hp, ot, fu, dn, va, tr⟩ : StM) = ⟨fr', hp', ot', fu, dn, va, tr'⟩) = false) := by show decide _ = false; simp [htr]
    clear X0 X1
    go_enter Try.func5, Try.ntmps5
    go_wp2_with fail
    go_ret
    exact ⟨by first | (rw [HT.out]; rfl) | rw [HT.out], X2.out⟩
  subst tr'
  go_enter Try.func5, Try.ntmps5
  go_wp2_with fail
  refine (specSameH _ _ _ _ _ (H2.out.below X2.out) (K2.out.below X2.out)).mono ?_
  rintro e w1 ⟨rfl, hb1⟩
  have Hb1 : Hid (Below w.heap.size w w1) := X2.out.trans (hb1.mono X2.out.size)
  have Y0 : Hid (Box w1 w.heap.size #[.slice A1 fr'.length c1, .slice A2 hp.length c2, .slice A3 ot.length c3, .int .i64 fu, .bool dn, .int .i64 va, .int .i64 tr]) := X0.out.below hb1
  have Y1 : Hid (Box w1 (w.heap.size + 1) #[.slice D1 fr'.length e1, .slice D2 hp'.length e2, .slice D3 ot'.length e3, .int .i64 fu, .bool dn, .int .i64 va, .int .i64 tr]) := X1.out.below hb1
  have d0 : w1.cell? ⟨w.heap.size, 2, none⟩ = some (.slice A3 ot.length c3) := Y0.out.2 2
  have d1 : w1.cell? ⟨w.heap.size + 1, 2, none⟩ = some (.slice D3 ot'.length e3) := Y1.out.2 2
  have s0 := Y0.out.1
  have s1 := Y1.out.1
  clear hb1 X0 X1
  by_cases hhp : hp = hp'
  case neg =>
    have HT : Hid (decide ((⟨fr, hp, ot, fu, dn, va, tr⟩ : StM) = ⟨fr', hp', ot', fu, dn, va, tr⟩) = false) := by show decide _ = false; simp [hhp]
    rw [decide_eq_false hhp]
    go_wp2_with fail
    go_ret
    exact ⟨by rw [HT.out]; rfl, Hb1.out⟩
  rw [decide_eq_true hhp]
  have Hhp : Hid (hp = hp') := hhp
  clear hhp
  go_wp2_with fail
  refine (specSameN _ _ _ _ _ (H3.out.below Hb1.out) (K3.out.below Hb1.out)).mono ?_
  rintro e w2 ⟨rfl, hb2⟩
  have Hb2 : Hid (Below w.heap.size w w2) := Hb1.out.trans (hb2.mono Hb1.out.size)
  have Z0 : Hid (Box w2 w.heap.size #[.slice A1 fr'.length c1, .slice A2 hp.length c2, .slice A3 ot.length c3, .int .i64 fu, .bool dn, .int .i64 va, .int .i64 tr]) := Y0.out.below hb2
  have Z1 : Hid (Box w2 (w.heap.size + 1) #[.slice D1 fr'.length e1, .slice D2 hp'.length e2, .slice D3 ot'.length e3, .int .i64 fu, .bool dn, .int .i64 va, .int .i64 tr]) := Y1.out.below hb2
  clear hb2 Y0 Y1 d0 d1 s0 s1
  by_cases hot : ot = ot'
  case neg =>
    have HT : Hid (decide ((⟨fr, hp, ot, fu, dn, va, tr⟩ : StM) = ⟨fr', hp', ot', fu, dn, va, tr⟩) = false) := by show decide _ = false; simp [hot]
    rw [decide_eq_false hot]
    go_wp2_with fail
    go_ret
    exact ⟨by rw [HT.out]; rfl, Hb2.out⟩
  rw [decide_eq_true hot]
  have HT : Hid (decide ((⟨fr, hp, ot, fu, dn, va, tr⟩ : StM) = ⟨fr', hp', ot', fu, dn, va, tr⟩) = decide (fr = fr')) := by show decide _ = _; simp [Hhp.out, hot]
  clear hot
  go_wp2_with fail
  go_loopg [5] (fr'.length) (fun g i wr => ∃ k : Nat, k ≤ fr'.length ∧ i = .int .i64 k ∧ fr'.length ≤ k + g ∧ Box wr w.heap.size #[.slice A1 fr'.length c1, .slice A2 hp.length c2, .slice A3 ot.length c3, .int .i64 fu, .bool dn, .int .i64 va, .int .i64 tr] ∧ Box wr (w.heap.size + 1) #[.slice D1 fr'.length e1, .slice D2 hp'.length e2, .slice D3 ot'.length e3, .int .i64 fu, .bool dn, .int .i64 va, .int .i64 tr] ∧ Below w.heap.size w wr ∧ ∀ j (h : j < fr.length) (h' : j < fr'.length), j < k → fr[j] = fr'[j])
  case atStart => exact ⟨0, Nat.zero_le _, rfl, by omega, Z0.out, Z1.out, Hb2.out, fun j _ _ h => by omega⟩
  case round =>
    obtain ⟨k, hk, rfl, hkg, hB0, hB1, hb, hsame⟩ := hrel
    have Hb : Hid (Below w.heap.size w wr) := hb
    have HB0 : Hid (Box wr w.heap.size #[.slice A1 fr'.length c1, .slice A2 hp.length c2, .slice A3 ot.length c3, .int .i64 fu, .bool dn, .int .i64 va, .int .i64 tr]) := hB0
    have HB1 : Hid (Box wr (w.heap.size + 1) #[.slice D1 fr'.length e1, .slice D2 hp'.length e2, .slice D3 ot'.length e3, .int .i64 fu, .bool dn, .int .i64 va, .int .i64 tr]) := hB1
    have Hsame : Hid (∀ j (h : j < fr.length) (h' : j < fr'.length), j < k → fr[j] = fr'[j]) := hsame
    have q0 := hB0.at0
    have q1 := hB1.at0
    have s0 := hB0.1
    have s1 := hB1.1
    clear hb hsame hB0 hB1
    by_cases hkl : k < fr'.length
    · have hkc : k < fr.length := by rw [Hln.out]; exact hkl
      obtain ⟨b, off, x, y, rfl, hlt, c0, c1, c2, c3, hx, hy⟩ := (H1.out.below Hb.out).at k hkc
      obtain ⟨b', off', x', y', rfl, hlt', d0, d1, d2, d3, hx', hy'⟩ := (K1.out.below Hb.out).at k hkl
      have Hx : Hid (IRow B wr x fr[k].locals) := hx
      have Hy : Hid (IRow B wr y fr[k].stack) := hy
      have Hx' : Hid (IRow C wr x' fr'[k].locals) := hx'
      have Hy' : Hid (IRow C wr y' fr'[k].stack) := hy'
      obtain ⟨X1, z1, rfl⟩ := hx.form
      obtain ⟨X2, z2, rfl⟩ := hy.form
      obtain ⟨X3, z3, rfl⟩ := hx'.form
      obtain ⟨X4, z4, rfl⟩ := hy'.form
      clear hx hy hx' hy'
      obtain ⟨f, hf⟩ : ∃ f, f = fr[k] := ⟨_, rfl⟩
      obtain ⟨g, hg⟩ : ∃ g, g = fr'[k] := ⟨_, rfl⟩
      rw [← hf] at c0 c1 c2 c3 Hx Hy
      rw [← hg] at d0 d1 d2 d3 Hx' Hy'
      have HN : Hid (¬ f = g → decide (fr = fr') = false) := fun hne => by simpa using list_ne_at k hkc hkl (by rw [← hf, ← hg]; exact hne)
      have HY : Hid (f = g → ∀ j (h : j < fr.length) (h' : j < fr'.length), j < k + 1 → fr[j] = fr'[j]) := fun he j h h' hj => if e : j = k then by subst e; rw [← hf, ← hg]; exact he else Hsame.out j h h' (by omega)
      obtain ⟨t0, t1, t2⟩ := boxes_new wr #[.int .i64 f.func, .int .i64 f.pc, .slice X1 f.locals.length z1, .slice X2 f.stack.length z2] #[.int .i64 g.func, .int .i64 g.pc, .slice X3 g.locals.length z3, .slice X4 g.stack.length z4] 40 40
      have T0 : Hid (Box _ wr.heap.size #[.int .i64 f.func, .int .i64 f.pc, .slice X1 f.locals.length z1, .slice X2 f.stack.length z2]) := t0
      have T1 : Hid (Box _ (wr.heap.size + 1) #[.int .i64 g.func, .int .i64 g.pc, .slice X3 g.locals.length z3, .slice X4 g.stack.length z4]) := t1
      have T2 : Hid (Below wr.heap.size wr _) := t2
      have HW : Hid (∀ W, Below wr.heap.size wr W → Below w.heap.size w W) := fun W h => Hb.out.trans (h.mono Hb.out.size)
      clear t0 t1 t2 hf hg
      by_cases hfu : f.func = g.func
      case neg =>
        have hne : (f.func != g.func) = true := by simpa using hfu
        have HF : Hid (decide (fr = fr') = false) := HN.out (fun e => hfu (by rw [e]))
        go_wp2_with fail
        go_ret
        exact ⟨by rw [HT.out, HF.out]; rfl, HW.out _ T2.out⟩
      by_cases hpc : f.pc = g.pc
      case neg =>
        have hne : (f.pc != g.pc) = true := by simpa using hpc
        have HF : Hid (decide (fr = fr') = false) := HN.out (fun e => hpc (by rw [e]))
        rw [hfu] at c0 T0 T1 T2
        go_wp2_with fail
        go_ret
        exact ⟨by rw [HT.out, HF.out]; rfl, HW.out _ T2.out⟩
      rw [hfu] at c0 T0 T1 T2
      rw [hpc] at c1 T0 T1 T2
      go_wp2_with fail
      refine (specSameN _ _ _ _ _ (Hx.out.below T2.out) (Hx'.out.below T2.out)).mono ?_
      rintro e w3 ⟨rfl, hb3⟩
      have Hb3 : Hid (Below wr.heap.size wr w3) := T2.out.trans (hb3.mono T2.out.size)
      have r0 : w3.cell? ⟨wr.heap.size, 3, none⟩ = some (.slice X2 f.stack.length z2) := (T0.out.below hb3).2 3
      have r1 : w3.cell? ⟨wr.heap.size + 1, 3, none⟩ = some (.slice X4 g.stack.length z4) := (T1.out.below hb3).2 3
      have r2 := (T0.out.below hb3).1
      have r3 := (T1.out.below hb3).1
      clear hb3
      by_cases hlo : f.locals = g.locals
      case neg =>
        have HF : Hid (decide (fr = fr') = false) := HN.out (fun e => hlo (by rw [e]))
        rw [decide_eq_false hlo]
        go_wp2_with fail
        go_ret
        exact ⟨by rw [HT.out, HF.out]; rfl, HW.out _ Hb3.out⟩
      rw [decide_eq_true hlo]
      go_wp2_with fail
      refine (specSameN _ _ _ _ _ (Hy.out.below Hb3.out) (Hy'.out.below Hb3.out)).mono ?_
      rintro e w4 ⟨rfl, hb4⟩
      have Hb4 : Hid (Below wr.heap.size wr w4) := Hb3.out.trans (hb4.mono Hb3.out.size)
      clear hb4
      by_cases hst : f.stack = g.stack
      case neg =>
        have HF : Hid (decide (fr = fr') = false) := HN.out (fun e => hst (by rw [e]))
        rw [decide_eq_false hst]
        go_wp2_with fail
        go_ret
        exact ⟨by rw [HT.out, HF.out]; rfl, HW.out _ Hb4.out⟩
      rw [decide_eq_true hst]
      have Hfg : Hid (f = g) := frM_eq.2 ⟨hfu, hpc, hlo, hst⟩
      go_wp2_with fail
      go_roundg (gk - 1)
      case measure => omega
      case rel => exact ⟨k + 1, by omega, by go_num, by omega, HB0.out.below Hb4.out, HB1.out.below Hb4.out, HW.out _ Hb4.out, HY.out Hfg.out⟩
    · go_wp2_with fail
      go_ret
      exact ⟨by rw [HT.out, decide_eq_true (list_eq_at Hln.out fun j h h' => Hsame.out j h h' (by omega))]; rfl, Hb.out⟩
end Go.Proofs.Ytfaameimocjaiaa
