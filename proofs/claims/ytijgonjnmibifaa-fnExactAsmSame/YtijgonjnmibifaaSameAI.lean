/- impl.AsmSame. -/
import Derived.Test.YtijgonjnmibifaaSameAN
namespace Go.Proofs.Ytijgonjnmibifaa
open Go.RowKit

set_option maxRecDepth 100000 in
set_option maxHeartbeats 3200000 in
theorem implSameAs {B C : Nat} (x y x' y' : Value) (a b : AsM) (w : World) (hr : AsRow B w x y a) (ht : AsRow C w x' y' b) :
    Calls Try.prog 7 #[asV x y a, asV x' y' b] w fun e w' => e = .returned (.bool (decide (a = b))) ∧ Below w.heap.size w w' := by
  obtain ⟨h1, h2⟩ := hr
  obtain ⟨k1, k2⟩ := ht
  have H1 : Hid (AiRow B w x a.code) := h1
  have H2 : Hid (MapsRow B w y a.maps) := h2
  have K1 : Hid (AiRow C w x' b.code) := k1
  have K2 : Hid (MapsRow C w y' b.maps) := k2
  obtain ⟨A1, c1, rfl⟩ := h1.form
  obtain ⟨A2, c2, rfl⟩ := h2.form
  obtain ⟨D1, e1, rfl⟩ := k1.form
  obtain ⟨D2, e2, rfl⟩ := k2.form
  clear h1 h2 k1 k2
  unfold asV
  obtain ⟨fu, co, ma⟩ := a
  obtain ⟨fu', co', ma'⟩ := b
  dsimp only at H1 H2 K1 K2 ⊢
  obtain ⟨p0, p1, p2⟩ := boxes_new w #[.int .i64 fu, .slice A1 co.length c1, .slice A2 ma.length c2] #[.int .i64 fu', .slice D1 co'.length e1, .slice D2 ma'.length e2] 31 31
  have X0 : Hid (Box _ w.heap.size #[.int .i64 fu, .slice A1 co.length c1, .slice A2 ma.length c2]) := p0
  have X1 : Hid (Box _ (w.heap.size + 1) #[.int .i64 fu', .slice D1 co'.length e1, .slice D2 ma'.length e2]) := p1
  have X2 : Hid (Below w.heap.size w _) := p2
  clear p0 p1 p2
  by_cases hfu : fu = fu'
  case neg =>
    have hne : (fu == fu') = false := by simpa using hfu
    have HT : Hid (decide ((⟨fu, co, ma⟩ : AsM) = ⟨fu', co', ma'⟩) = false) := by show decide _ = false; simp [hfu]
    clear X0 X1
    go_enter Try.func7, Try.ntmps7
    go_wp2_with fail
    go_ret
    exact ⟨by first | (rw [HT.out]; rfl) | rw [HT.out], X2.out⟩
  subst fu'
  go_enter Try.func7, Try.ntmps7
  go_wp2_with fail
  refine (equalAis _ _ _ _ _ (H1.out.below X2.out) (K1.out.below X2.out)).mono ?_
  rintro e w1 ⟨rfl, hb1⟩
  have Hb1 : Hid (Below w.heap.size w w1) := X2.out.trans (hb1.mono X2.out.size)
  have d0 : w1.cell? ⟨w.heap.size, 2, none⟩ = some (.slice A2 ma.length c2) := (X0.out.below hb1).2 2
  have d1 : w1.cell? ⟨w.heap.size + 1, 2, none⟩ = some (.slice D2 ma'.length e2) := (X1.out.below hb1).2 2
  have s0 := (X0.out.below hb1).1
  have s1 := (X1.out.below hb1).1
  clear hb1 X0 X1
  by_cases hco : co = co'
  case neg =>
    have HT : Hid (decide ((⟨fu, co, ma⟩ : AsM) = ⟨fu, co', ma'⟩) = false) := by show decide _ = false; simp [hco]
    rw [decide_eq_false hco]
    go_wp2_with fail
    go_ret
    exact ⟨by rw [HT.out]; rfl, Hb1.out⟩
  rw [decide_eq_true hco]
  go_wp2_with fail
  refine (equalMaps _ _ _ _ _ (H2.out.below Hb1.out) (K2.out.below Hb1.out)).mono ?_
  rintro e w2 ⟨rfl, hb2⟩
  have Hb2 : Hid (Below w.heap.size w w2) := Hb1.out.trans (hb2.mono Hb1.out.size)
  clear hb2
  have HT : Hid (decide ((⟨fu, co, ma⟩ : AsM) = ⟨fu, co', ma'⟩) = decide (ma = ma')) := by show decide _ = _; simp [hco]
  by_cases hma : ma = ma'
  · rw [decide_eq_true hma] at HT ⊢
    go_wp2_with fail
    go_ret
    exact ⟨by rw [HT.out]; rfl, Hb2.out⟩
  · rw [decide_eq_false hma] at HT ⊢
    go_wp2_with fail
    go_ret
    exact ⟨by rw [HT.out]; rfl, Hb2.out⟩
end Go.Proofs.Ytijgonjnmibifaa
