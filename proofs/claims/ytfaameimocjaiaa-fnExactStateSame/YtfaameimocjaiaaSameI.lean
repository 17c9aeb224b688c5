/- impl.StateSame. -/
import Derived.Test.YtfaameimocjaiaaSameN
namespace Go.Proofs.Ytfaameimocjaiaa
open Go.RowKit

set_option maxRecDepth 100000 in
set_option maxHeartbeats 3200000 in
theorem implSameSt {B C : Nat} (x y z x' y' z' : Value) (a b : StM) (w : World) (hr : StRow B w x y z a) (ht : StRow C w x' y' z' b) :
    Calls Try.prog 7 #[stV x y z a, stV x' y' z' b] w fun e w' => e = .returned (.bool (decide (a = b))) ∧ Below w.heap.size w w' := by
  obtain ⟨h1, h2, h3⟩ := hr
  obtain ⟨k1, k2, k3⟩ := ht
  have H1 : Hid (FrRow B w x a.frames) := h1
  have H2 : Hid (ArrRow B w y a.heap) := h2
  have H3 : Hid (IRow B w z a.out) := h3
  have K1 : Hid (FrRow C w x' b.frames) := k1
  have K2 : Hid (ArrRow C w y' b.heap) := k2
  have K3 : Hid (IRow C w z' b.out) := k3
  obtain ⟨A1, c1, rfl⟩ := h1.form
  obtain ⟨A2, c2, rfl⟩ := h2.form
  obtain ⟨A3, c3, rfl⟩ := h3.form
  obtain ⟨D1, e1, rfl⟩ := k1.form
  obtain ⟨D2, e2, rfl⟩ := k2.form
  obtain ⟨D3, e3, rfl⟩ := k3.form
  clear h1 h2 h3 k1 k2 k3
  unfold stV
  obtain ⟨fr, hp, ot, fu, dn, va, tr⟩ := a
  obtain ⟨fr', hp', ot', fu', dn', va', tr'⟩ := b
  dsimp only at H1 H2 H3 K1 K2 K3 ⊢
  obtain ⟨p0, p1, p2⟩ := boxes_new w #[.slice A1 fr.length c1, .slice A2 hp.length c2, .slice A3 ot.length c3, .int .i64 fu, .bool dn, .int .i64 va, .int .i64 tr] #[.slice D1 fr'.length e1, .slice D2 hp'.length e2, .slice D3 ot'.length e3, .int .i64 fu', .bool dn', .int .i64 va', .int .i64 tr'] 31 31
  have X0 : Hid (Box _ w.heap.size #[.slice A1 fr.length c1, .slice A2 hp.length c2, .slice A3 ot.length c3, .int .i64 fu, .bool dn, .int .i64 va, .int .i64 tr]) := p0
  have X1 : Hid (Box _ (w.heap.size + 1) #[.slice D1 fr'.length e1, .slice D2 hp'.length e2, .slice D3 ot'.length e3, .int .i64 fu', .bool dn', .int .i64 va', .int .i64 tr']) := p1
  have X2 : Hid (Below w.heap.size w _) := p2
  clear p0 p1 p2
  by_cases hfu : fu = fu'
  case neg =>
    have hne : (fu == fu') = false := by simpa using hfu
    have HT : Hid (decide ((⟨fr, hp, ot, fu, dn, va, tr⟩ : StM) = ⟨fr', hp', ot', fu', dn', va', tr'⟩) = false) := by show decide _ = false; simp [hfu]
    clear X0 X1
    go_enter Try.func7, Try.ntmps7
    go_wp2_with fail
    go_ret
    exact ⟨by first | (rw [HT.out]; rfl) | rw [HT.out], X2.out⟩
  subst fu'
  by_cases hdn : dn = dn'
  case neg =>
    have hne : (dn == dn') = false := by simpa using hdn
    have HT : Hid (decide ((⟨fr, hp, ot, fu, dn, va, tr⟩ : StM) = ⟨fr', hp', ot', fu, dn', va', tr'⟩) = false) := by show decide _ = false; simp [hdn]
    clear X0 X1
    go_enter Try.func7, Try.ntmps7
    go_wp2_with fail
    go_ret
    exact ⟨by first | (rw [HT.out]; rfl) | rw [HT.out], X2.out⟩
  subst dn'
  by_cases hva : va = va'
  case neg =>
    have hne : (va == va') = false := by simpa using hva
    have HT : Hid (decide ((⟨fr, hp, ot, fu, dn, va, tr⟩ : StM) = ⟨fr', hp', ot', fu, dn, va', tr'⟩) = false) := by show decide _ = false; simp [hva]
    clear X0 X1
    go_enter Try.func7, Try.ntmps7
    go_wp2_with fail
    go_ret
    exact ⟨by first | (rw [HT.out]; rfl) | rw [HT.out], X2.out⟩
  subst va'
  by_cases htr : tr = tr'
  case neg =>
    have hne : (tr == tr') = false := by simpa using htr
    have HT : Hid (decide ((⟨fr, hp, ot, fu, dn, va, tr⟩ : StM) = ⟨fr', hp', ot', fu, dn, va, tr'⟩) = false) := by show decide _ = false; simp [htr]
    clear X0 X1
    go_enter Try.func7, Try.ntmps7
    go_wp2_with fail
    go_ret
    exact ⟨by first | (rw [HT.out]; rfl) | rw [HT.out], X2.out⟩
  subst tr'
  go_enter Try.func7, Try.ntmps7
  go_wp2_with fail
  refine (equalFr _ _ _ _ _ (H1.out.below X2.out) (K1.out.below X2.out)).mono ?_
  rintro e w1 ⟨rfl, hb1⟩
  have Hb1 : Hid (Below w.heap.size w w1) := X2.out.trans (hb1.mono X2.out.size)
  have d0 : w1.cell? ⟨w.heap.size, 1, none⟩ = some (.slice A2 hp.length c2) := (X0.out.below hb1).2 1
  have d1 : w1.cell? ⟨w.heap.size + 1, 1, none⟩ = some (.slice D2 hp'.length e2) := (X1.out.below hb1).2 1
  have s0 := (X0.out.below hb1).1
  have s1 := (X1.out.below hb1).1
  have Y0 : Hid (Box w1 w.heap.size #[.slice A1 fr.length c1, .slice A2 hp.length c2, .slice A3 ot.length c3, .int .i64 fu, .bool dn, .int .i64 va, .int .i64 tr]) := X0.out.below hb1
  have Y1 : Hid (Box w1 (w.heap.size + 1) #[.slice D1 fr'.length e1, .slice D2 hp'.length e2, .slice D3 ot'.length e3, .int .i64 fu, .bool dn, .int .i64 va, .int .i64 tr]) := X1.out.below hb1
  clear hb1 X0 X1
  by_cases hfr : fr = fr'
  case neg =>
    have HT : Hid (decide ((⟨fr, hp, ot, fu, dn, va, tr⟩ : StM) = ⟨fr', hp', ot', fu, dn, va, tr⟩) = false) := by show decide _ = false; simp [hfr]
    rw [decide_eq_false hfr]
    go_wp2_with fail
    go_ret
    exact ⟨by rw [HT.out]; rfl, Hb1.out⟩
  rw [decide_eq_true hfr]
  go_wp2_with fail
  refine (equalH _ _ _ _ _ (H2.out.below Hb1.out) (K2.out.below Hb1.out)).mono ?_
  rintro e w2 ⟨rfl, hb2⟩
  have Hb2 : Hid (Below w.heap.size w w2) := Hb1.out.trans (hb2.mono Hb1.out.size)
  have d2 : w2.cell? ⟨w.heap.size, 2, none⟩ = some (.slice A3 ot.length c3) := (Y0.out.below hb2).2 2
  have d3 : w2.cell? ⟨w.heap.size + 1, 2, none⟩ = some (.slice D3 ot'.length e3) := (Y1.out.below hb2).2 2
  have s2 := (Y0.out.below hb2).1
  have s3 := (Y1.out.below hb2).1
  clear hb2 Y0 Y1 d0 d1 s0 s1
  by_cases hhp : hp = hp'
  case neg =>
    have HT : Hid (decide ((⟨fr, hp, ot, fu, dn, va, tr⟩ : StM) = ⟨fr', hp', ot', fu, dn, va, tr⟩) = false) := by show decide _ = false; simp [hhp]
    rw [decide_eq_false hhp]
    go_wp2_with fail
    go_ret
    exact ⟨by rw [HT.out]; rfl, Hb2.out⟩
  rw [decide_eq_true hhp]
  go_wp2_with fail
  refine (equalN _ _ _ _ _ (H3.out.below Hb2.out) (K3.out.below Hb2.out)).mono ?_
  rintro e w3 ⟨rfl, hb3⟩
  have Hb3 : Hid (Below w.heap.size w w3) := Hb2.out.trans (hb3.mono Hb2.out.size)
  clear hb3
  have HT : Hid (decide ((⟨fr, hp, ot, fu, dn, va, tr⟩ : StM) = ⟨fr', hp', ot', fu, dn, va, tr⟩) = decide (ot = ot')) := by show decide _ = _; simp [hfr, hhp]
  by_cases hot : ot = ot'
  · rw [decide_eq_true hot] at HT ⊢
    go_wp2_with fail
    go_ret
    exact ⟨by rw [HT.out]; rfl, Hb3.out⟩
  · rw [decide_eq_false hot] at HT ⊢
    go_wp2_with fail
    go_ret
    exact ⟨by rw [HT.out]; rfl, Hb3.out⟩
end Go.Proofs.Ytfaameimocjaiaa
