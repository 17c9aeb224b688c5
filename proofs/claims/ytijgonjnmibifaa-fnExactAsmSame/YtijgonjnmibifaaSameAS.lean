/- spec.l10SameIns, spec.AsmSame. -/
import Derived.Test.YtijgonjnmibifaaSameAN
namespace Go.Proofs.Ytijgonjnmibifaa
open Go.RowKit

set_option maxRecDepth 100000 in
set_option maxHeartbeats 3200000 in
theorem specSameAi {B C : Nat} (f g : AiM) (v u v' u' : Value) (w : World) (h1 : MvRow B w v f.pre) (h2 : InsRow B w u f.l) (h3 : MvRow C w v' g.pre) (h4 : InsRow C w u' g.l) :
    Calls Try.prog 11 #[.agg #[v, .int .i64 f.op, .int .i64 f.to, u, .int .i64 f.t], .agg #[v', .int .i64 g.op, .int .i64 g.to, u', .int .i64 g.t]] w fun e w' => e = .returned (.bool (decide (f = g))) ∧ Below w.heap.size w w' := by
  have H1 : Hid (MvRow B w v f.pre) := h1
  have H2 : Hid (InsRow B w u f.l) := h2
  have H3 : Hid (MvRow C w v' g.pre) := h3
  have H4 : Hid (InsRow C w u' g.l) := h4
  have hl1 := h1.len
  have hl3 := h3.len
  obtain ⟨A1, c1, rfl⟩ := h1.form
  obtain ⟨A2, c2, rfl⟩ := h2.form
  obtain ⟨A3, c3, rfl⟩ := h3.form
  obtain ⟨A4, c4, rfl⟩ := h4.form
  clear h1 h2 h3 h4
  obtain ⟨x0, x1, x2⟩ := boxes_new w #[.slice A1 f.pre.length c1, .int .i64 f.op, .int .i64 f.to, .slice A2 f.l.length c2, .int .i64 f.t] #[.slice A3 g.pre.length c3, .int .i64 g.op, .int .i64 g.to, .slice A4 g.l.length c4, .int .i64 g.t] 40 40
  have X0 : Hid (Box _ w.heap.size #[.slice A1 f.pre.length c1, .int .i64 f.op, .int .i64 f.to, .slice A2 f.l.length c2, .int .i64 f.t]) := x0
  have X1 : Hid (Box _ (w.heap.size + 1) #[.slice A3 g.pre.length c3, .int .i64 g.op, .int .i64 g.to, .slice A4 g.l.length c4, .int .i64 g.t]) := x1
  have X2 : Hid (Below w.heap.size w _) := x2
  clear x0 x1 x2
  by_cases hop : f.op = g.op
  case neg =>
    have hne : (f.op != g.op) = true := by simpa using hop
    have HT : Hid (decide (f = g) = false) := by show decide (f = g) = false; simp [aiM_eq, hop]
    clear X0 X1
    go_enter Try.func11, Try.ntmps11
    go_wp2_with fail
    go_ret
    exact ⟨by rw [HT.out]; rfl, X2.out⟩
  rw [hop] at X0 X1 X2 ⊢
  by_cases hto : f.to = g.to
  case neg =>
    have hne : (f.to != g.to) = true := by simpa using hto
    have HT : Hid (decide (f = g) = false) := by show decide (f = g) = false; simp [aiM_eq, hto]
    clear X0 X1
    go_enter Try.func11, Try.ntmps11
    go_wp2_with fail
    go_ret
    exact ⟨by rw [HT.out]; rfl, X2.out⟩
  rw [hto] at X0 X1 X2 ⊢
  by_cases htt : f.t = g.t
  case neg =>
    have hne : (f.t != g.t) = true := by simpa using htt
    have HT : Hid (decide (f = g) = false) := by show decide (f = g) = false; simp [aiM_eq, htt]
    clear X0 X1
    go_enter Try.func11, Try.ntmps11
    go_wp2_with fail
    go_ret
    exact ⟨by rw [HT.out]; rfl, X2.out⟩
  rw [htt] at X0 X1 X2 ⊢
  by_cases hln : f.pre.length = g.pre.length
  case neg =>
    have hne : ((f.pre.length : Int) != (g.pre.length : Int)) = true := by simpa using (show ¬ (f.pre.length : Int) = (g.pre.length : Int) by omega)
    have HT : Hid (decide (f = g) = false) := by
      show decide _ = false
      simp only [decide_eq_false_iff_not, aiM_eq]
      exact fun h => hln (by rw [h.2.2.2.1])
    clear X0 X1
    go_enter Try.func11, Try.ntmps11
    go_wp2_with fail
    go_ret
    exact ⟨by rw [HT.out]; rfl, X2.out⟩
  have Hln : Hid (f.pre.length = g.pre.length) := hln
  rw [hln] at X0 X1 X2 H1 ⊢
  clear hln hl1
  go_enter Try.func11, Try.ntmps11
  go_wp2_with fail
  refine (specSameV _ _ _ _ _ (H2.out.below X2.out) (H4.out.below X2.out)).mono ?_
  rintro e w1 ⟨rfl, hb1⟩
  have Hb1 : Hid (Below w.heap.size w w1) := X2.out.trans (hb1.mono X2.out.size)
  have Y0 : Hid (Box w1 w.heap.size #[.slice A1 g.pre.length c1, .int .i64 g.op, .int .i64 g.to, .slice A2 f.l.length c2, .int .i64 g.t]) := X0.out.below hb1
  have Y1 : Hid (Box w1 (w.heap.size + 1) #[.slice A3 g.pre.length c3, .int .i64 g.op, .int .i64 g.to, .slice A4 g.l.length c4, .int .i64 g.t]) := X1.out.below hb1
  clear hb1 X0 X1
  by_cases hl : f.l = g.l
  case neg =>
    have HT : Hid (decide (f = g) = false) := by show decide (f = g) = false; simp [aiM_eq, hl]
    rw [decide_eq_false hl]
    go_wp2_with fail
    go_ret
    exact ⟨by rw [HT.out]; rfl, Hb1.out⟩
  rw [decide_eq_true hl]
  have HT : Hid (decide (f = g) = decide (f.pre = g.pre)) := by show decide (f = g) = _; simp [aiM_eq, hop, hto, htt, hl]
  clear hl hop hto htt
  go_wp2_with fail
  go_loopg [5] (g.pre.length) (fun gg i wr => ∃ k : Nat, k ≤ g.pre.length ∧ i = .int .i64 k ∧ g.pre.length ≤ k + gg ∧ Box wr w.heap.size #[.slice A1 g.pre.length c1, .int .i64 g.op, .int .i64 g.to, .slice A2 f.l.length c2, .int .i64 g.t] ∧ Box wr (w.heap.size + 1) #[.slice A3 g.pre.length c3, .int .i64 g.op, .int .i64 g.to, .slice A4 g.l.length c4, .int .i64 g.t] ∧ Below w.heap.size w wr ∧ ∀ j (h : j < f.pre.length) (h' : j < g.pre.length), j < k → f.pre[j] = g.pre[j])
  case atStart => exact ⟨0, Nat.zero_le _, rfl, by omega, Y0.out, Y1.out, Hb1.out, fun j _ _ h => by omega⟩
  case round =>
    obtain ⟨k, hk, rfl, hkg, hB0, hB1, hb, hsame⟩ := hrel
    have Hb : Hid (Below w.heap.size w wr) := hb
    have HB0 : Hid (Box wr w.heap.size #[.slice A1 g.pre.length c1, .int .i64 g.op, .int .i64 g.to, .slice A2 f.l.length c2, .int .i64 g.t]) := hB0
    have HB1 : Hid (Box wr (w.heap.size + 1) #[.slice A3 g.pre.length c3, .int .i64 g.op, .int .i64 g.to, .slice A4 g.l.length c4, .int .i64 g.t]) := hB1
    have Hsame : Hid (∀ j (h : j < f.pre.length) (h' : j < g.pre.length), j < k → f.pre[j] = g.pre[j]) := hsame
    have q0 := hB0.at0
    have q1 := hB1.at0
    have s0 := hB0.1
    have s1 := hB1.1
    clear hb hsame hB0 hB1
    by_cases hkl : k < g.pre.length
    · have hkc : k < f.pre.length := by rw [Hln.out]; exact hkl
      obtain ⟨b, off, rfl, hlt, c0, c1, c2⟩ := (H1.out.below Hb.out).at k hkc
      obtain ⟨b', off', rfl, hlt', d0, d1, d2⟩ := (H3.out.below Hb.out).at k hkl
      have he := eqMv f.pre[k] g.pre[k]
      by_cases hcd : f.pre[k] = g.pre[k]
      · have Hcd : Hid (f.pre[k] = g.pre[k]) := hcd
        rw [decide_eq_true hcd] at he
        clear hcd
        go_upto_region 6 with fail
        go_quiet (fail)
        go_wp2_with fail
        go_roundg (gk - 1)
        case measure => omega
        case rel => exact ⟨k + 1, by omega, by go_num, by omega, HB0.out.below (below_drewN (Below.refl _ _) _), HB1.out.below (below_drewN (Below.refl _ _) _), below_drewN Hb.out _, fun j h h' hj => if e : j = k then by subst e; exact Hcd.out else Hsame.out j h h' (by omega)⟩
      · rw [decide_eq_false hcd] at he
        have HF : Hid (decide (f.pre = g.pre) = false) := by show decide _ = false; simpa using ne_at k hkc hkl hcd
        clear hcd
        go_upto_region 6 with fail
        go_quiet (fail)
        go_wp2_with fail
        go_ret
        exact ⟨by rw [HT.out, HF.out]; rfl, below_drewN Hb.out _⟩
    · go_wp2_with fail
      go_ret
      exact ⟨by rw [HT.out, decide_eq_true (eq_at Hln.out fun j h h' => Hsame.out j h h' (by omega))]; rfl, Hb.out⟩

set_option maxRecDepth 100000 in
set_option maxHeartbeats 6400000 in
theorem specSameAs {B C : Nat} (x y x' y' : Value) (a b : AsM) (w : World) (hr : AsRow B w x y a) (ht : AsRow C w x' y' b) :
    Calls Try.prog 5 #[asV x y a, asV x' y' b] w fun e w' => e = .returned (.bool (decide (a = b))) ∧ Below w.heap.size w w' := by
  obtain ⟨h1, h2⟩ := hr
  obtain ⟨k1, k2⟩ := ht
  have H1 : Hid (AiRow B w x a.code) := h1
  have H2 : Hid (MapsRow B w y a.maps) := h2
  have K1 : Hid (AiRow C w x' b.code) := k1
  have K2 : Hid (MapsRow C w y' b.maps) := k2
  have l1 := h1.len
  have l2 := h2.len
  have l3 := k1.len
  have l4 := k2.len
  obtain ⟨A1, c1, rfl⟩ := h1.form
  obtain ⟨A2, c2, rfl⟩ := h2.form
  obtain ⟨D1, e1, rfl⟩ := k1.form
  obtain ⟨D2, e2, rfl⟩ := k2.form
  clear h1 h2 k1 k2
  unfold asV
  obtain ⟨fu, co, ma⟩ := a
  obtain ⟨fu', co', ma'⟩ := b
  dsimp only at H1 H2 K1 K2 l1 l2 l3 l4 ⊢
  obtain ⟨p0, p1, p2⟩ := boxes_new w #[.int .i64 fu, .slice A1 co.length c1, .slice A2 ma.length c2] #[.int .i64 fu', .slice D1 co'.length e1, .slice D2 ma'.length e2] 31 31
  have X0 : Hid (Box _ w.heap.size #[.int .i64 fu, .slice A1 co.length c1, .slice A2 ma.length c2]) := p0
  have X1 : Hid (Box _ (w.heap.size + 1) #[.int .i64 fu', .slice D1 co'.length e1, .slice D2 ma'.length e2]) := p1
  have X2 : Hid (Below w.heap.size w _) := p2
  clear p0 p1 p2
  by_cases hfu : fu = fu'
  case neg =>
    have hne : (fu != fu') = true := by simpa using hfu
    have HT : Hid (decide ((⟨fu, co, ma⟩ : AsM) = ⟨fu', co', ma'⟩) = false) := by show decide _ = false; simp [hfu]
    clear X0 X1
    go_enter Try.func5, Try.ntmps5
    go_wp2_with fail
    go_ret
    exact ⟨by first | (rw [HT.out]; rfl) | rw [HT.out], X2.out⟩
  subst fu'
  by_cases hln : co.length = co'.length
  case neg =>
    have hne : ((co.length : Int) != (co'.length : Int)) = true := by simpa using (show ¬ (co.length : Int) = (co'.length : Int) by omega)
    have HT : Hid (decide ((⟨fu, co, ma⟩ : AsM) = ⟨fu, co', ma'⟩) = false) := by
      show decide _ = false
      simp only [decide_eq_false_iff_not, AsM.mk.injEq]
      exact fun h => hln (by rw [h.2.1])
    clear X0 X1
    go_enter Try.func5, Try.ntmps5
    go_wp2_with fail
    go_ret
    exact ⟨by first | (rw [HT.out]; rfl) | rw [HT.out], X2.out⟩
  have Hln : Hid (co.length = co'.length) := hln
  rw [hln] at X0 X1 X2 H1 ⊢
  clear hln l1
  by_cases hmn : ma.length = ma'.length
  case neg =>
    have hne : ((ma.length : Int) != (ma'.length : Int)) = true := by simpa using (show ¬ (ma.length : Int) = (ma'.length : Int) by omega)
    have HT : Hid (decide ((⟨fu, co, ma⟩ : AsM) = ⟨fu, co', ma'⟩) = false) := by
      show decide _ = false
      simp only [decide_eq_false_iff_not, AsM.mk.injEq]
      exact fun h => hmn (by rw [h.2.2])
    clear X0 X1
    go_enter Try.func5, Try.ntmps5
    go_wp2_with fail
    go_ret
    exact ⟨by first | (rw [HT.out]; rfl) | rw [HT.out], X2.out⟩
  have Hmn : Hid (ma.length = ma'.length) := hmn
  rw [hmn] at X0 X1 X2 H2 ⊢
  clear hmn l2
  have HT : Hid (decide ((⟨fu, co, ma⟩ : AsM) = ⟨fu, co', ma'⟩) = (decide (co = co') && decide (ma = ma'))) := by show decide _ = _; simp
  go_enter Try.func5, Try.ntmps5
  go_wp2_with fail
  go_loopg [5] (co'.length) (fun gg i wr => ∃ k : Nat, k ≤ co'.length ∧ i = .int .i64 k ∧ co'.length ≤ k + gg ∧ Box wr w.heap.size #[.int .i64 fu, .slice A1 co'.length c1, .slice A2 ma'.length c2] ∧ Box wr (w.heap.size + 1) #[.int .i64 fu, .slice D1 co'.length e1, .slice D2 ma'.length e2] ∧ Below w.heap.size w wr ∧ ∀ j (h : j < co.length) (h' : j < co'.length), j < k → co[j] = co'[j])
  case atStart => exact ⟨0, Nat.zero_le _, rfl, by omega, X0.out, X1.out, X2.out, fun j _ _ h => by omega⟩
  case round =>
    obtain ⟨k, hk, rfl, hkg, hB0, hB1, hb, hsame⟩ := hrel
    have Hb : Hid (Below w.heap.size w wr) := hb
    have HB0 : Hid (Box wr w.heap.size #[.int .i64 fu, .slice A1 co'.length c1, .slice A2 ma'.length c2]) := hB0
    have HB1 : Hid (Box wr (w.heap.size + 1) #[.int .i64 fu, .slice D1 co'.length e1, .slice D2 ma'.length e2]) := hB1
    have Hsame : Hid (∀ j (h : j < co.length) (h' : j < co'.length), j < k → co[j] = co'[j]) := hsame
    have q0 := hB0.at1
    have q1 := hB1.at1
    have s0 := hB0.1
    have s1 := hB1.1
    clear hb hsame hB0 hB1
    by_cases hkl : k < co'.length
    · have hkc : k < co.length := by rw [Hln.out]; exact hkl
      obtain ⟨b, off, x, y, rfl, hlt, c0, c1, c2, c3, c4, hx, hy⟩ := (H1.out.below Hb.out).at k hkc
      obtain ⟨b', off', x', y', rfl, hlt', d0, d1, d2, d3, d4, hx', hy'⟩ := (K1.out.below Hb.out).at k hkl
      have Hx : Hid (MvRow B wr.drew x co[k].pre) := hx.below (Below.refl _ _).drew
      have Hy : Hid (InsRow B wr.drew y co[k].l) := hy.below (Below.refl _ _).drew
      have Hx' : Hid (MvRow C wr.drew x' co'[k].pre) := hx'.below (Below.refl _ _).drew
      have Hy' : Hid (InsRow C wr.drew y' co'[k].l) := hy'.below (Below.refl _ _).drew
      clear hx hy hx' hy'
      go_upto_region 6 with fail
      go_cut [48] from 30 to 48 (fun x wc => x = .bool (!decide (co[k] = co'[k])) ∧ Below wr.heap.size wr wc)
      case first =>
        go_region_with (go_at_call 11; refine (specSameAi co[k] co'[k] _ _ _ _ _ (by exact Hx.out) (by exact Hy.out) (by exact Hx'.out) (by exact Hy'.out)).mono ?_; rintro e w3 ⟨rfl, hb3⟩)
        all_goals
          go_wp2_with fail
          go_meet
          exact ⟨rfl, (Below.refl _ _).drew.trans hb3⟩
      case rest =>
        obtain ⟨rfl, hwc⟩ := hcut
        have Hwc : Hid (Below wr.heap.size wr wc) := hwc
        clear hwc c0 c1 c2 c3 c4 d0 d1 d2 d3 d4
        by_cases hcd : co[k] = co'[k]
        · have Hcd : Hid (co[k] = co'[k]) := hcd
          rw [decide_eq_true hcd]
          clear hcd
          go_wp2_with fail
          go_roundg (gk - 1)
          case measure => omega
          case rel => exact ⟨k + 1, by omega, by go_num, by omega, HB0.out.below Hwc.out, HB1.out.below Hwc.out, Hb.out.trans (Hwc.out.mono Hb.out.size), fun j h h' hj => if e : j = k then by subst e; exact Hcd.out else Hsame.out j h h' (by omega)⟩
        · have HF : Hid (decide (co = co') = false) := by show decide (co = co') = false; simpa using ne_at k hkc hkl hcd
          rw [decide_eq_false hcd]
          clear hcd
          go_wp2_with fail
          go_ret
          exact ⟨by rw [HT.out, HF.out]; rfl, Hb.out.trans (Hwc.out.mono Hb.out.size)⟩
    · have HF : Hid (decide (co = co') = true) := decide_eq_true (eq_at Hln.out fun j h h' => Hsame.out j h h' (by omega))
      go_wp2_with fail
      clear Hsame q0 q1 s0 s1
      go_loopg [6] (ma'.length) (fun gg i wv => ∃ k : Nat, k ≤ ma'.length ∧ i = .int .i64 k ∧ ma'.length ≤ k + gg ∧ Box wv w.heap.size #[.int .i64 fu, .slice A1 co'.length c1, .slice A2 ma'.length c2] ∧ Box wv (w.heap.size + 1) #[.int .i64 fu, .slice D1 co'.length e1, .slice D2 ma'.length e2] ∧ Below w.heap.size w wv ∧ ∀ j (h : j < ma.length) (h' : j < ma'.length), j < k → ma[j] = ma'[j])
      case atStart => exact ⟨0, Nat.zero_le _, rfl, by omega, HB0.out, HB1.out, Hb.out, fun j _ _ h => by omega⟩
      case round =>
        obtain ⟨k, hk, rfl, hkg, hB0, hB1, hb, hsame⟩ := hrel
        have Hb : Hid (Below w.heap.size w wr) := hb
        have HB0 : Hid (Box wr w.heap.size #[.int .i64 fu, .slice A1 co'.length c1, .slice A2 ma'.length c2]) := hB0
        have HB1 : Hid (Box wr (w.heap.size + 1) #[.int .i64 fu, .slice D1 co'.length e1, .slice D2 ma'.length e2]) := hB1
        have Hsame : Hid (∀ j (h : j < ma.length) (h' : j < ma'.length), j < k → ma[j] = ma'[j]) := hsame
        have q0 := hB0.at2
        have q1 := hB1.at2
        have s0 := hB0.1
        have s1 := hB1.1
        clear hb hsame hB0 hB1
        by_cases hkl : k < ma'.length
        · have hkc : k < ma.length := by rw [Hmn.out]; exact hkl
          obtain ⟨b, off, x, rfl, hlt, c0, hx⟩ := (H2.out.below Hb.out).at k hkc
          obtain ⟨b', off', x', rfl, hlt', d0, hx'⟩ := (K2.out.below Hb.out).at k hkl
          have Hx : Hid (InsRow B wr.drew x ma[k]) := hx.below (Below.refl _ _).drew
          have Hx' : Hid (InsRow C wr.drew x' ma'[k]) := hx'.below (Below.refl _ _).drew
          obtain ⟨Ax, cx, rfl⟩ := hx.form
          obtain ⟨Ay, cy, rfl⟩ := hx'.form
          clear hx hx'
          go_upto_region 11 with fail
          go_cut [67] from 49 to 67 (fun x wc => x = .bool (!decide (ma[k] = ma'[k])) ∧ Below wr.heap.size wr wc)
          case first =>
            go_region_with (go_at_call 12; refine (specSameV _ _ ma[k] ma'[k] _ (by exact Hx.out) (by exact Hx'.out)).mono ?_; rintro e w3 ⟨rfl, hb3⟩)
            all_goals
              go_wp2_with fail
              go_meet
              exact ⟨rfl, (Below.refl _ _).drew.trans hb3⟩
          case rest =>
            obtain ⟨rfl, hwc⟩ := hcut
            have Hwc : Hid (Below wr.heap.size wr wc) := hwc
            clear hwc c0 d0
            by_cases hcd : ma[k] = ma'[k]
            · have Hcd : Hid (ma[k] = ma'[k]) := hcd
              rw [decide_eq_true hcd]
              clear hcd
              go_wp2_with fail
              go_roundg (gk - 1)
              case measure => omega
              case rel => exact ⟨k + 1, by omega, by go_num, by omega, HB0.out.below Hwc.out, HB1.out.below Hwc.out, Hb.out.trans (Hwc.out.mono Hb.out.size), fun j h h' hj => if e : j = k then by subst e; exact Hcd.out else Hsame.out j h h' (by omega)⟩
            · have HG : Hid (decide (ma = ma') = false) := by show decide (ma = ma') = false; simpa using ne_at k hkc hkl hcd
              rw [decide_eq_false hcd]
              clear hcd
              go_wp2_with fail
              go_ret
              exact ⟨by rw [HT.out, HF.out, HG.out]; rfl, Hb.out.trans (Hwc.out.mono Hb.out.size)⟩
        · go_wp2_with fail
          go_ret
          exact ⟨by rw [HT.out, HF.out, decide_eq_true (eq_at Hmn.out fun j h h' => Hsame.out j h h' (by omega))]; rfl, Hb.out⟩
end Go.Proofs.Ytijgonjnmibifaa
