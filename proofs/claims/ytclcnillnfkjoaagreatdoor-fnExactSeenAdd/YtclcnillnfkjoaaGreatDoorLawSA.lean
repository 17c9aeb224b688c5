/- laws.FnExactSeenAdd. -/
import Derived.Test.YtclcnillnfkjoaaGreatDoorJ3
import Derived.Test.YtclcnillnfkjoaaGreatDoorJ4
import Derived.Test.YtclcnillnfkjoaaGreatDoorPrgTo
import Derived.Test.YtclcnillnfkjoaaGreatDoorPrgEq
namespace Go.Proofs.YtclcnillnfkjoaaGreatDoor
open Go.RowKit

theorem toPrgA {B : Nat} (v : Value) (p : List FnM) (w : World) (hr : FnRow B w v p) (hn : bulk p ≤ 1048576) :
    Calls Tryz.prog 16 #[.agg #[v]] w fun e w' => ∃ A c, e = .returned (.agg #[.slice A p.length c]) ∧ FnRow w.heap.size w' (.slice A p.length c) p ∧ Below w.heap.size w w' := by
  refine Calls.mono (toPrg v p w hr hn) ?_
  rintro e w' ⟨v', rfl, hP, hb⟩
  obtain ⟨A, c, rfl⟩ := hP.form
  exact ⟨A, c, rfl, hP, hb⟩

theorem SnV.row {B : Nat} {w : World} {v : Value} {l : List SnM} (h : SnV B w v l) (hl : l.length ≤ 9223372036854775807) : SnRow B w v l := by
  rcases h.2 with ⟨rfl, h0⟩ | ⟨g, cap, cur, rfl, hb, hh, hn, hm, hs, ht⟩
  · exact ⟨none, 0, by rw [h0], hl, fun i hi => by omega⟩
  · obtain ⟨_, h1, h2, h3⟩ := h.cells
    refine ⟨_, cap, rfl, hl, fun i hi => ⟨g, 0, rfl, h1, h2, ?_⟩⟩
    have := h3 i hi
    simpa using this

theorem SnV.kept {B : Nat} {w w' : World} {v : Value} {l : List SnM} (h : SnV B w v l) (hb : ∀ b, B ≤ b → b < w.heap.size → w'.heap[b]? = w.heap[b]?) : SnV B w' v l := by
  refine ⟨h.1, ?_⟩
  rcases h.2 with hn | ⟨g, cap, cur, hv, hbg, hh, rest⟩
  · exact .inl hn
  · exact .inr ⟨g, cap, cur, hv, hbg, by rw [hb g hbg (Array.getElem?_eq_some_iff.1 hh).1]; exact hh, rest⟩

theorem SnV.spots {B : Nat} {w : World} {v : Value} {l : List SnM} (h : SnV B w v l) : SnSpots B w.heap.size w v l.length := by
  rcases h.2 with ⟨rfl, h0⟩ | ⟨g, cap, cur, rfl, hb, hh, hn, hm, hs, ht⟩
  · exact ⟨none, 0, by rw [h0], fun i hi => by omega⟩
  · obtain ⟨_, h1, h2, h3⟩ := h.cells
    refine ⟨_, cap, rfl, fun i hi => ⟨g, 0, rfl, h1, h2, fun j hj => ?_⟩⟩
    obtain ⟨c0, c1, c2, c3⟩ := h3 i hi
    refine ⟨?_, by simp [World.frozen?, hh]⟩
    simp only [Nat.zero_add]
    rcases (show j = 0 ∨ j = 1 ∨ j = 2 ∨ j = 3 by omega) with rfl | rfl | rfl | rfl
    · simp only [Nat.add_zero]; rw [c0]; rfl
    · rw [c1]; rfl
    · rw [c2]; rfl
    · rw [c3]; rfl

theorem Touched.below {B U N : Nat} {w w' : World} (h : Touched B U w w') (hN : N ≤ B) : Below N w w' :=
  ⟨h.os, h.tape, h.output, by rw [h.size]; exact Nat.le_refl _, fun b hb => h.block b (.inl (by omega))⟩

/-- what the call was given and told, on the way -/
structure SAx (Bf U3 U4 U5 U6 : Nat) (X Q1 Q2 G : Value) (p : List FnM) (na nb : Nat) (l : List SnM) (w : World) : Prop where
  mark : MarkRow Bf U3 w X p
  thaw : ∀ b j, Bf ≤ b → b < U3 → w.frozen? ⟨b, j, none⟩ = false
  box : Box w U3 #[X]
  s1 : SnSpots U4 (U4 + 1) w Q1 na
  s2 : SnSpots U5 (U5 + 1) w Q2 nb
  own : SnV U6 w G l
  o1 : U3 + 1 ≤ U4
  o2 : U4 + 1 ≤ U5
  o3 : U5 + 1 ≤ U6
  o4 : U6 ≤ w.heap.size

theorem SAx.below {Bf U3 U4 U5 U6 : Nat} {X Q1 Q2 G : Value} {p : List FnM} {na nb : Nat} {l : List SnM} {w w' : World} (h : SAx Bf U3 U4 U5 U6 X Q1 Q2 G p na nb l w) (hb : Below w.heap.size w w') : SAx Bf U3 U4 U5 U6 X Q1 Q2 G p na nb l w' := by
  obtain ⟨h1, h2, h3, h4, h5, h6, o1, o2, o3, o4⟩ := h
  exact ⟨h1.below hb, fun b j k1 k2 => by rw [hb.frozen (by show b < w.heap.size; omega)]; exact h2 b j k1 k2, h3.below hb, h4.below (by omega) hb, h5.below (by omega) hb, h6.below hb, o1, o2, o3, Nat.le_trans o4 hb.size⟩

/-- what is left when the arguments' own memory has been written over -/
structure SAy (U6 : Nat) (G : Value) (l : List SnM) (N : Nat) (w : World) : Prop where
  own : SnV U6 w G l
  hN : N ≤ U6
  o4 : U6 ≤ w.heap.size

set_option maxRecDepth 100000 in
set_option maxHeartbeats 12800000 in
theorem lawExactSeenAdd (v0 v1 v2 : Value) (w : World) (i0 : IsProgram w v0) (i1 : IsSeen w v1) (i2 : IsSeen w v2) (tab : Tab w) :
    Calls Tryz.prog 4 #[v0, v1, v2] w fun e w' => e = .returned (.bool true) ∧ Below w.heap.size w w' := by
  obtain ⟨v, p, rfl, hr, hok⟩ := i0
  obtain ⟨a, ha, hoka⟩ := i1
  obtain ⟨b, hb, hokb⟩ := i2
  obtain ⟨A, cap, rfl⟩ := hr.form
  obtain ⟨D, dap, rfl⟩ := ha.form
  obtain ⟨E, eap, rfl⟩ := hb.form
  have hla := ha.len
  have hlb := hb.len
  have Hr : Hid (FnRow 0 w (.slice A p.length cap) p) := hr
  have Ha : Hid (SnRow 0 w (.slice D a.length dap) a) := ha
  have Hb : Hid (SnRow 0 w (.slice E b.length eap) b) := hb
  have Ht : Hid (Tab w) := tab
  have Hok : Hid (∀ g ∈ p, g.ok) := hok
  have Hoka : Hid (∀ s ∈ a, s.ok) := hoka
  have Hokb : Hid (∀ s ∈ b, s.ok) := hokb
  clear hr ha hb tab hok hoka hokb
  have X0 : Hid (Box _ w.heap.size #[.slice A p.length cap]) := box_new w #[.slice A p.length cap] 36
  have X2 : Hid (Below w.heap.size w (w.alloc (.cells #[.slice A p.length cap] 36))) := (Below.refl _ _).alloc (Nat.le_refl _) _
  go_enter Tryz.func4, Tryz.ntmps4
  go_wp2_with fail
  refine (szPrg _ p 1048576 _ (Hr.out.below X2.out) (by omega) (by omega)).mono ?_
  rintro e w1 ⟨rfl, hb1⟩
  have Hb1 : Hid (Below w.heap.size w w1) := X2.out.trans (hb1.mono X2.out.size)
  have Hk : Hid (∀ w', Below w1.heap.size w1 w' → (w'.cell? ⟨w.heap.size, 0, none⟩ = some (.slice A p.length cap) ∧ w.heap.size < w'.heap.size) ∧ FnRow 0 w' (.slice A p.length cap) p ∧ SnRow 0 w' (.slice D a.length dap) a ∧ SnRow 0 w' (.slice E b.length eap) b ∧ Tab w') := by
    intro w' h
    have b0 := (X0.out.below hb1).below h
    exact ⟨⟨b0.at0, b0.1⟩, (Hr.out.below Hb1.out).below h, (Ha.out.below Hb1.out).below h, (Hb.out.below Hb1.out).below h, (Ht.out.below Hb1.out).below h⟩
  clear hb1 X0 X2 Hr Ha Hb Ht
  by_cases hc : bulk p ≤ 1048576
  case neg =>
    rw [show less 1048576 (bulk p) = -1 by unfold less; rw [if_neg (by omega)]]
    go_wp2_with fail
    go_ret
    exact ⟨rfl, Hb1.out⟩
  rw [show less 1048576 (bulk p) = 1048576 - bulk p by unfold less; rw [if_pos (by omega)]]
  go_wp2_with fail
  refine (szSeen (.slice D a.length dap) a _ _ (Hk.out w1 (Below.refl _ _)).2.2.1 (by omega) (by omega)).mono ?_
  rintro e w2 ⟨rfl, h⟩
  subst w2
  by_cases hd : (a.length : Int) ≤ 1048576 - bulk p
  case neg =>
    rw [show less (1048576 - (bulk p : Int)) a.length = -1 by unfold less; rw [if_neg (by omega)]]
    go_wp2_with fail
    go_ret
    exact ⟨rfl, Hb1.out⟩
  rw [show less (1048576 - (bulk p : Int)) a.length = 1048576 - bulk p - a.length by unfold less; rw [if_pos (by omega)]]
  go_wp2_with fail
  refine (szSeen (.slice E b.length eap) b _ _ (Hk.out w1 (Below.refl _ _)).2.2.2.1 (by omega) (by omega)).mono ?_
  rintro e w2 ⟨rfl, h⟩
  subst w2
  by_cases he : (b.length : Int) ≤ 1048576 - bulk p - a.length
  case neg =>
    rw [show less (1048576 - (bulk p : Int) - a.length) b.length = -1 by unfold less; rw [if_neg (by omega)]]
    go_wp2_with fail
    go_ret
    exact ⟨rfl, Hb1.out⟩
  rw [show less (1048576 - (bulk p : Int) - a.length) b.length = 1048576 - bulk p - a.length - b.length by unfold less; rw [if_pos (by omega)]]
  have ha' : a.length ≤ 1048576 := by omega
  have hb' : b.length ≤ 1048576 := by omega
  obtain ⟨c0, c1⟩ := (Hk.out w1 (Below.refl _ _)).1
  go_wp2_with fail
  clear hd he hla hlb
  refine (toPrgA (.slice A p.length cap) p _ (Hk.out _ (Below.refl _ _)).2.1 hc).mono ?_
  rintro e wP ⟨P0, p0, rfl, hP, hbP⟩
  have HbP : Hid (Below w1.heap.size w1 wP) := hbP
  have HP : Hid (FnRow 0 wP (.slice P0 p.length p0) p) := hP.lower (Nat.zero_le _)
  clear hP hbP c0 c1
  go_wp2_with fail
  refine (toSeenS (.slice D a.length dap) a _ (Hk.out _ HbP.out).2.2.1 ha').mono ?_
  rintro e wQ ⟨Q0, q0, rfl, hQ, hbQ⟩
  have HbQ : Hid (Below w1.heap.size w1 wQ) := HbP.out.trans (hbQ.mono HbP.out.size)
  have HPQ : Hid (FnRow 0 wQ (.slice P0 p.length p0) p) := HP.out.below hbQ
  have HQ : Hid (SnRow 0 wQ (.slice Q0 a.length q0) a) := hQ.lower (Nat.zero_le _)
  clear hQ hbQ HP
  go_wp2_with fail
  refine (toSeenS (.slice E b.length eap) b _ (Hk.out _ HbQ.out).2.2.2.1 hb').mono ?_
  rintro e wR ⟨R0, r0, rfl, hR, hbR⟩
  have HbR : Hid (Below w1.heap.size w1 wR) := HbQ.out.trans (hbR.mono HbQ.out.size)
  have hsp := specSeenAdd (.slice P0 p.length p0) (.slice Q0 a.length q0) (.slice R0 b.length r0) p a b wR (HPQ.out.below hbR) Hok.out (HQ.out.below hbR) Hoka.out (hR.lower (Nat.zero_le _)) Hokb.out
  have Hsp : Hid (Calls Tryz.prog 15 #[.agg #[.slice P0 p.length p0], .slice Q0 a.length q0, .slice R0 b.length r0] wR fun e w' => AddTold p a b wR w' e) := hsp
  clear hR hbR hsp HPQ HQ
  go_wp2_with fail
  refine Calls.mono (R := fun e w' => AddTold p a b wR w' e) Hsp.out ?_
  rintro e wD ⟨vS, l, rfl, hS, hAdd, hll, hbD⟩
  have HAdd : Hid (AddIs p a b l) := hAdd
  have HbD : Hid (Below w1.heap.size w1 wD) := HbR.out.trans (hbD.mono HbR.out.size)
  obtain ⟨S0, s0, rfl⟩ := hS.form
  have Hk2 : Hid (∀ w', Below wD.heap.size wD w' → ((w'.cell? ⟨w.heap.size, 0, none⟩ = some (.slice A p.length cap) ∧ w.heap.size < w'.heap.size) ∧ FnRow 0 w' (.slice A p.length cap) p ∧ SnRow 0 w' (.slice D a.length dap) a ∧ SnRow 0 w' (.slice E b.length eap) b ∧ Tab w') ∧ SnRow 0 w' (.slice S0 l.length s0) l ∧ Below w.heap.size w w') := by
    have hrow : SnRow 0 wD (.slice S0 l.length s0) l := (hS.row (by omega)).lower (Nat.zero_le _)
    intro w' h
    have h1 := HbD.out.trans (h.mono HbD.out.size)
    exact ⟨Hk.out w' h1, hrow.below h, Hb1.out.trans (h1.mono Hb1.out.size)⟩
  clear hS hAdd hbD Hsp HbR HbQ HbP HbD Hk Hb1 Hok Hoka Hokb
  obtain ⟨⟨⟨c0, c1⟩, _⟩, _⟩ := Hk2.out wD (Below.refl _ _)
  go_wp2_with fail
  refine (toPrgT (.slice A p.length cap) p _ (Hk2.out _ (Below.refl _ _)).1.2.1 hc).mono ?_
  rintro e w3 ⟨vX, rfl, hX, hb3, hth, Bf, hBf, hMk⟩
  obtain ⟨P1, p1, rfl⟩ := hX.form
  have Hb3 : Hid (Below wD.heap.size wD w3) := hb3
  have HX : Hid (FnRow 0 w3 (.slice P1 p.length p1) p) := hX.lower (Nat.zero_le _)
  have HMk : Hid (MarkRow Bf w3.heap.size w3 (.slice P1 p.length p1) p) := hMk
  have Hfz : Hid (∀ b j, Bf ≤ b → w3.frozen? ⟨b, j, none⟩ = false) := fun b j h1 => hth b j (by omega)
  have hal3 : Below w3.heap.size w3 (w3.alloc (.cells #[.slice P1 p.length p1] 25)) := (Below.refl _ _).alloc (Nat.le_refl _) _
  have Hal3 : Hid (Below w3.heap.size w3 (w3.alloc (.cells #[.slice P1 p.length p1] 25))) := hal3
  have Hb3a : Hid (Below wD.heap.size wD (w3.alloc (.cells #[.slice P1 p.length p1] 25))) := Hb3.out.trans (hal3.mono Hb3.out.size)
  have B3 : Hid (Box (w3.alloc (.cells #[.slice P1 p.length p1] 25)) w3.heap.size #[.slice P1 p.length p1]) := box_new w3 _ 25
  obtain ⟨U4, hU4⟩ : ∃ U4, U4 = w3.heap.size + 1 := ⟨_, rfl⟩
  have hU4' : (w3.alloc (.cells #[.slice P1 p.length p1] 25)).heap.size = U4 := by rw [hU4]; simp
  clear c0 c1 hX hb3 hth hMk hal3
  go_wp2_with fail
  refine (toSeenT (.slice D a.length dap) a _ (Hk2.out _ Hb3a.out).1.2.2.1 ha').mono ?_
  rintro e w4 ⟨Q1, q1, rfl, hY, hsY, hlY, hb4⟩
  rw [hU4'] at hsY hlY
  have Hb4 : Hid (Below wD.heap.size wD w4) := Hb3a.out.trans (hb4.mono Hb3a.out.size)
  have H34 : Hid (Below w3.heap.size w3 w4) := Hal3.out.trans (hb4.mono Hal3.out.size)
  have HY : Hid (SnRow 0 w4 (.slice Q1 a.length q1) a) := hY.lower (Nat.zero_le _)
  have HsY : Hid (SnSpots U4 (U4 + 1) w4 (.slice Q1 a.length q1) a.length) := hsY
  have B4 : Hid (Box w4 w3.heap.size #[.slice P1 p.length p1]) := B3.out.below hb4
  clear hY hsY hb4 B3 Hal3 Hb3a hU4'
  go_wp2_with fail
  refine (toSeenT (.slice E b.length eap) b _ (Hk2.out _ Hb4.out).1.2.2.2.1 hb').mono ?_
  rintro e w5 ⟨Q2, q2, rfl, hZ, hsZ, hlZ, hb5⟩
  have Hb5 : Hid (Below wD.heap.size wD w5) := Hb4.out.trans (hb5.mono Hb4.out.size)
  have H35 : Hid (Below w3.heap.size w3 w5) := H34.out.trans (hb5.mono H34.out.size)
  have HX5 : Hid (FnRow 0 w5 (.slice P1 p.length p1) p) := HX.out.below H35.out
  have HY5 : Hid (SnRow 0 w5 (.slice Q1 a.length q1) a) := HY.out.below hb5
  have HZ5 : Hid (SnRow 0 w5 (.slice Q2 b.length q2) b) := hZ.lower (Nat.zero_le _)
  have Hs5 : Hid (MarkRow Bf w3.heap.size w5 (.slice P1 p.length p1) p ∧ (∀ b j, Bf ≤ b → b < w3.heap.size → w5.frozen? ⟨b, j, none⟩ = false) ∧ Box w5 w3.heap.size #[.slice P1 p.length p1] ∧ SnSpots U4 (U4 + 1) w5 (.slice Q1 a.length q1) a.length ∧ SnSpots w4.heap.size (w4.heap.size + 1) w5 (.slice Q2 b.length q2) b.length ∧ U4 + 1 ≤ w4.heap.size ∧ w4.heap.size + 1 ≤ w5.heap.size) :=
    ⟨HMk.out.below H35.out, fun b j h1 h2 => by rw [H35.out.frozen (by exact h2)]; exact Hfz.out b j h1, B4.out.below hb5, HsY.out.below (by omega) hb5, hsZ, by omega, hlZ⟩
  clear hZ hsZ hlZ hlY hb5 B4 HX HY HMk Hfz HsY H34 H35 Hb4 Hb3
  have b0 := Hs5.out.2.2.1.at0
  have b1 := Hs5.out.2.2.1.1
  have hir := implSeenAdd (.slice P1 p.length p1) (.slice Q1 a.length q1) (.slice Q2 b.length q2) p a b w5 (Hk2.out _ Hb5.out).1.2.2.2.2 HX5.out HY5.out HZ5.out hc
  have Hir : Hid (Calls Tryz.prog 18 #[.agg #[.slice P1 p.length p1], .slice Q1 a.length q1, .slice Q2 b.length q2] w5 fun e w' => AddTold p a b w5 w' e) := hir
  clear hir
  go_wp2_with fail
  refine Calls.mono (R := fun e w' => AddTold p a b w5 w' e) Hir.out ?_
  rintro e w6 ⟨vG, l', rfl, hG, hAdd', hll', hb6⟩
  obtain rfl : l' = l := hAdd'.unique HAdd.out
  obtain ⟨G0, g0, rfl⟩ := hG.form
  have Hb6 : Hid (Below wD.heap.size wD w6) := Hb5.out.trans (hb6.mono Hb5.out.size)
  have HS6 : Hid (SAx Bf w3.heap.size U4 w4.heap.size w5.heap.size (.slice P1 p.length p1) (.slice Q1 a.length q1) (.slice Q2 b.length q2) (.slice G0 l'.length g0) p a.length b.length l' w6) := by
    obtain ⟨h1, h2, h3, h4, h5, h6, h7⟩ := Hs5.out
    exact ⟨h1.below hb6, fun b j k1 k2 => by rw [hb6.frozen (by show b < w5.heap.size; omega)]; exact h2 b j k1 k2, h3.below hb6, h4.below (by omega) hb6, h5.below h7 hb6, hG, by omega, h6, h7, hb6.size⟩
  have HK6 : Hid (∀ w', Below w6.heap.size w6 w' → FnRow 0 w' (.slice P1 p.length p1) p ∧ SnRow 0 w' (.slice Q1 a.length q1) a ∧ SnRow 0 w' (.slice Q2 b.length q2) b ∧ (w'.cell? ⟨w3.heap.size, 0, none⟩ = some (.slice P1 p.length p1) ∧ w3.heap.size < w'.heap.size) ∧ SAx Bf w3.heap.size U4 w4.heap.size w5.heap.size (.slice P1 p.length p1) (.slice Q1 a.length q1) (.slice Q2 b.length q2) (.slice G0 l'.length g0) p a.length b.length l' w' ∧ Below wD.heap.size wD w') := by
    intro w' h
    have hs := HS6.out.below h
    exact ⟨(HX5.out.below hb6).below h, (HY5.out.below hb6).below h, (HZ5.out.below hb6).below h, ⟨hs.box.at0, hs.box.1⟩, hs, Hb6.out.trans (h.mono Hb6.out.size)⟩
  have hUf : Bf < w3.heap.size := by obtain ⟨_, _, h, _⟩ := HS6.out.mark; exact h
  clear hG hAdd' hb6 Hs5 Hir HX5 HY5 HZ5 b0 b1 Hb5 hll'
  go_wp2_with fail
  refine (eqSeenS (.slice G0 l'.length g0) (.slice S0 l'.length s0) l' _ (HS6.out.own.row (by omega)) (Hk2.out _ Hb6.out).2.1).mono ?_
  rintro e w7 ⟨rfl, hb7⟩
  have Hb7 : Hid (Below w6.heap.size w6 w7) := hb7
  clear hb7 HS6
  obtain ⟨_, _, _, ⟨e0, e1⟩, _, hD7⟩ := HK6.out w7 Hb7.out
  obtain ⟨⟨⟨c0, c1⟩, _⟩, _⟩ := Hk2.out w7 hD7
  have HD7 : Hid (Below wD.heap.size wD w7) := hD7
  clear hD7
  go_wp2_with fail
  go_cut [57] (fun q wc => q = .bool false ∧ Below w6.heap.size w6 wc)
  case first =>
    go_region_with (first
      | (go_at_call 16; refine (toPrgA (.slice A p.length cap) p _ (Hk2.out _ HD7.out.drew).1.2.1 hc).mono ?_; rintro e wP ⟨R1, r1, rfl, hP, hbP⟩
         have hbP' := Hb7.out.drew.trans (hbP.mono Hb7.out.size)
         obtain ⟨hX, _, _, ⟨f0, f1⟩, _, _⟩ := HK6.out wP hbP')
      | (go_at_call 20; refine (eqPrg _ _ p _ hX hP).mono ?_; rintro e wQ ⟨rfl, hbQ⟩
         have hbQ' := hbP'.trans (hbQ.mono hbP'.size)))
    all_goals
      go_wp2_with fail
      go_meet
      exact ⟨rfl, hbQ'⟩
  case rest =>
    obtain ⟨rfl, hwc⟩ := hcut
    rename World => w8
    have Hb8 : Hid (Below w6.heap.size w6 w8) := hwc
    have HD8 : Hid (Below wD.heap.size wD w8) := (HK6.out w8 hwc).2.2.2.2.2
    clear c0 c1 e0 e1 hwc Hb7 HD7
    go_wp2_with fail
    refine (toSeenS (.slice D a.length dap) a _ (Hk2.out _ HD8.out).1.2.2.1 ha').mono ?_
    rintro e w9 ⟨T1, t1, rfl, hT, hb9⟩
    have Hb9 : Hid (Below w6.heap.size w6 w9) := Hb8.out.trans (hb9.mono Hb8.out.size)
    have HT : Hid (SnRow 0 w9 (.slice T1 a.length t1) a) := hT.lower (Nat.zero_le _)
    clear hT hb9 Hb8 HD8
    go_wp2_with fail
    refine (eqSeenS (.slice Q1 a.length q1) (.slice T1 a.length t1) a _ (HK6.out _ Hb9.out).2.1 HT.out).mono ?_
    rintro e w10 ⟨rfl, hb10⟩
    have Hb10 : Hid (Below w6.heap.size w6 w10) := Hb9.out.trans (hb10.mono Hb9.out.size)
    have HD10 : Hid (Below wD.heap.size wD w10) := (HK6.out w10 Hb10.out).2.2.2.2.2
    clear hb10 Hb9 HT
    go_wp2_with fail
    refine (toSeenS (.slice E b.length eap) b _ (Hk2.out _ HD10.out).1.2.2.2.1 hb').mono ?_
    rintro e w11 ⟨T2, t2, rfl, hT, hb11⟩
    have Hb11 : Hid (Below w6.heap.size w6 w11) := Hb10.out.trans (hb11.mono Hb10.out.size)
    have HT : Hid (SnRow 0 w11 (.slice T2 b.length t2) b) := hT.lower (Nat.zero_le _)
    clear hT hb11 Hb10 HD10
    go_wp2_with fail
    refine (eqSeenS (.slice Q2 b.length q2) (.slice T2 b.length t2) b _ (HK6.out _ Hb11.out).2.2.1 HT.out).mono ?_
    rintro e w12 ⟨rfl, hb12⟩
    have Hb12 : Hid (Below w6.heap.size w6 w12) := Hb11.out.trans (hb12.mono Hb11.out.size)
    obtain ⟨_, _, _, ⟨e0, e1⟩, hS12, hD12⟩ := HK6.out w12 Hb12.out
    have HS12 : Hid (SAx Bf w3.heap.size U4 w4.heap.size w5.heap.size (.slice P1 p.length p1) (.slice Q1 a.length q1) (.slice Q2 b.length q2) (.slice G0 l'.length g0) p a.length b.length l' w12) := hS12
    have HD12 : Hid (Below wD.heap.size wD w12) := hD12
    clear hb12 Hb11 HT hS12 hD12 Hb12 HK6
    go_wp2_with fail
    refine (markPrg _ p 1 _ HS12.out.mark HS12.out.thaw hc (by omega)).mono ?_
    rintro e w13 ⟨m, rfl, hm, hs13, ⟨ho13, ht13, hp13⟩, hblk⟩
    have HD13 : Hid (Below wD.heap.size wD w13) := ⟨ho13.trans HD12.out.os, ht13.trans HD12.out.tape, hp13.trans HD12.out.output, Nat.le_trans HD12.out.size hs13, fun b hb => (hblk b (Nat.lt_of_lt_of_le hb HD12.out.size) (.inl (by omega))).trans (HD12.out.block b hb)⟩
    have Hs13 : Hid (SnSpots U4 (U4 + 1) w13 (.slice Q1 a.length q1) a.length ∧ SnSpots w4.heap.size (w4.heap.size + 1) w13 (.slice Q2 b.length q2) b.length ∧ SnV w5.heap.size w13 (.slice G0 l'.length g0) l' ∧ w5.heap.size ≤ w13.heap.size ∧ U4 + 1 ≤ w4.heap.size ∧ w4.heap.size + 1 ≤ w5.heap.size ∧ wD.heap.size ≤ U4) := by
      obtain ⟨_, _, _, h1, h2, h3, o1, o2, o3, o4⟩ := HS12.out
      exact ⟨h1.kept fun b k1 k2 => hblk b (by omega) (.inr (by omega)), h2.kept fun b k1 k2 => hblk b (by omega) (.inr (by omega)), h3.kept fun b k1 k2 => hblk b k2 (.inr (by omega)), Nat.le_trans o4 hs13, o2, o3, by omega⟩
    clear hs13 ho13 ht13 hp13 hblk HS12 HD12 e0 e1
    go_wp2_with fail
    refine (markSeen _ a.length m _ Hs13.out.1 (by have := Hs13.out.2; omega) ha' (by omega)).mono ?_
    rintro e w14 ⟨rfl, hT14, _⟩
    have HD14 : Hid (Below wD.heap.size wD w14) := HD13.out.trans (hT14.below Hs13.out.2.2.2.2.2.2)
    have Hs14 : Hid (SnSpots w4.heap.size (w4.heap.size + 1) w14 (.slice Q2 b.length q2) b.length ∧ SnV w5.heap.size w14 (.slice G0 l'.length g0) l' ∧ w5.heap.size ≤ w14.heap.size ∧ w4.heap.size + 1 ≤ w5.heap.size ∧ wD.heap.size ≤ w4.heap.size) := by
      obtain ⟨_, h2, h3, o1, o2, o3, o4⟩ := Hs13.out
      exact ⟨h2.kept fun b k1 k2 => hT14.block b (.inr (by omega)), h3.kept fun b k1 k2 => hT14.block b (.inr (by omega)), by rw [hT14.size]; exact o1, o3, by omega⟩
    clear hT14 Hs13 HD13
    go_wp2_with fail
    refine (markSeen _ b.length (m + 4 * a.length) _ Hs14.out.1 (by have := Hs14.out.2; omega) hb' (by omega)).mono ?_
    rintro e w15 ⟨rfl, hT15, _⟩
    have HD15 : Hid (Below wD.heap.size wD w15) := HD14.out.trans (hT15.below Hs14.out.2.2.2.2)
    have HG15 : Hid (SnV w5.heap.size w15 (.slice G0 l'.length g0) l' ∧ w5.heap.size ≤ w15.heap.size ∧ wD.heap.size ≤ w5.heap.size) := by
      obtain ⟨_, h3, o1, o3, o4⟩ := Hs14.out
      exact ⟨h3.kept fun b k1 k2 => hT15.block b (.inr (by omega)), by rw [hT15.size]; exact o1, by omega⟩
    clear hT15 Hs14 HD14
    have hm0 : decide (((m + 4 * a.length + 4 * b.length : Nat) : Int) < 0) = false := decide_eq_false (by omega)
    go_wp2_with fail
    refine (eqSeenS (.slice G0 l'.length g0) (.slice S0 l'.length s0) l' _ (HG15.out.1.row (by omega)) (Hk2.out _ HD15.out).2.1).mono ?_
    rintro e w16 ⟨rfl, hb16⟩
    have HD16 : Hid (Below wD.heap.size wD w16) := HD15.out.trans (hb16.mono HD15.out.size)
    have HG16 : Hid (SnV w5.heap.size w16 (.slice G0 l'.length g0) l' ∧ w5.heap.size ≤ w16.heap.size ∧ wD.heap.size ≤ w5.heap.size) := ⟨HG15.out.1.below hb16, Nat.le_trans HG15.out.2.1 hb16.size, HG15.out.2.2⟩
    clear hb16 HG15 HD15 hm0
    go_wp2_with fail
    refine (markSeen _ l'.length 1 _ HG16.out.1.spots (Nat.le_refl _) (by omega) (by omega)).mono ?_
    rintro e w17 ⟨rfl, hT17, hrow⟩
    have HD17 : Hid (Below wD.heap.size wD w17) := HD16.out.trans (hT17.below HG16.out.2.2)
    have HG17 : Hid (SnRow 0 w17 (.slice G0 l'.length g0) (smarks l'.length 1)) := hrow
    clear hT17 hrow HG16 HD16
    go_wp2_with fail
    refine (heldSeen _ l'.length 1 _ (by omega) (by omega) HG17.out).mono ?_
    rintro e wz ⟨rfl, hwz⟩
    subst wz
    obtain ⟨⟨⟨c0, c1⟩, _⟩, _⟩ := Hk2.out w17 HD17.out
    go_wp2_with fail
    refine (toPrgA (.slice A p.length cap) p _ (Hk2.out _ HD17.out).1.2.1 hc).mono ?_
    rintro e w18 ⟨P2, p2, rfl, hP, hb18⟩
    have HD18 : Hid (Below wD.heap.size wD w18) := HD17.out.trans (hb18.mono HD17.out.size)
    have HP18 : Hid (FnRow 0 w18 (.slice P2 p.length p2) p) := hP.lower (Nat.zero_le _)
    have HG18 : Hid (SnRow 0 w18 (.slice G0 l'.length g0) (smarks l'.length 1)) := HG17.out.below hb18
    clear hP hb18 HG17 HD17 c0 c1
    go_wp2_with fail
    refine (toSeenS (.slice D a.length dap) a _ (Hk2.out _ HD18.out).1.2.2.1 ha').mono ?_
    rintro e w19 ⟨Q3, q3, rfl, hQ, hb19⟩
    have HD19 : Hid (Below wD.heap.size wD w19) := HD18.out.trans (hb19.mono HD18.out.size)
    have HP19 : Hid (FnRow 0 w19 (.slice P2 p.length p2) p) := HP18.out.below hb19
    have HQ19 : Hid (SnRow 0 w19 (.slice Q3 a.length q3) a) := hQ.lower (Nat.zero_le _)
    have HG19 : Hid (SnRow 0 w19 (.slice G0 l'.length g0) (smarks l'.length 1)) := HG18.out.below hb19
    clear hQ hb19 HG18 HD18 HP18
    go_wp2_with fail
    refine (toSeenS (.slice E b.length eap) b _ (Hk2.out _ HD19.out).1.2.2.2.1 hb').mono ?_
    rintro e w20 ⟨R3, r3, rfl, hR, hb20⟩
    have HD20 : Hid (Below wD.heap.size wD w20) := HD19.out.trans (hb20.mono HD19.out.size)
    have HG20 : Hid (SnRow 0 w20 (.slice G0 l'.length g0) (smarks l'.length 1)) := HG19.out.below hb20
    have hir := implSeenAdd (.slice P2 p.length p2) (.slice Q3 a.length q3) (.slice R3 b.length r3) p a b w20 (Hk2.out _ HD20.out).1.2.2.2.2 (HP19.out.below hb20) (HQ19.out.below hb20) (hR.lower (Nat.zero_le _)) hc
    have Hir : Hid (Calls Tryz.prog 18 #[.agg #[.slice P2 p.length p2], .slice Q3 a.length q3, .slice R3 b.length r3] w20 fun e w' => AddTold p a b w20 w' e) := hir
    clear hR hb20 HG19 HD19 HP19 HQ19 hir
    go_wp2_with fail
    refine Calls.mono (R := fun e w' => AddTold p a b w20 w' e) Hir.out ?_
    rintro e w21 ⟨vH, l2, rfl, hH, hAdd2, _, hb21⟩
    obtain rfl : l2 = l' := hAdd2.unique HAdd.out
    obtain ⟨H0, h0, rfl⟩ := hH.form
    have HD21 : Hid (Below wD.heap.size wD w21) := HD20.out.trans (hb21.mono HD20.out.size)
    have HG21 : Hid (SnRow 0 w21 (.slice G0 l2.length g0) (smarks l2.length 1)) := HG20.out.below hb21
    have HH21 : Hid (SnRow 0 w21 (.slice H0 l2.length h0) l2) := (hH.row (by omega)).lower (Nat.zero_le _)
    clear hH hAdd2 hb21 HG20 HD20 Hir
    go_wp2_with fail
    refine (eqSeenS (.slice H0 l2.length h0) (.slice S0 l2.length s0) l2 _ HH21.out (Hk2.out _ HD21.out).2.1).mono ?_
    rintro e w22 ⟨rfl, hb22⟩
    have HW22 : Hid (Below w.heap.size w w22) := (Hk2.out _ (HD21.out.trans (hb22.mono HD21.out.size))).2.2
    have HG22 : Hid (SnRow 0 w22 (.slice G0 l2.length g0) (smarks l2.length 1)) := HG21.out.below hb22
    clear hb22 HG21 HD21 HH21
    go_wp2_with fail
    refine (heldSeen _ l2.length 1 _ (by omega) (by omega) HG22.out).mono ?_
    rintro e wz ⟨rfl, hwz⟩
    subst wz
    go_wp2_with fail
    go_ret
    exact ⟨rfl, HW22.out⟩
end Go.Proofs.YtclcnillnfkjoaaGreatDoor
