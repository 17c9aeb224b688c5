/- laws.FnExactAsmBytes. -/
import Derived.Test.YtijgonjnmibifaaGreatDoorAbX
import Derived.Test.YtijgonjnmibifaaGreatDoorSizA
import Derived.Test.YtijgonjnmibifaaGreatDoorPrgTo
import Derived.Test.YtijgonjnmibifaaGreatDoorPrgEq
import Derived.Test.YtijgonjnmibifaaGreatDoorToA
import Derived.Test.YtijgonjnmibifaaGreatDoorAmEq
import Derived.Test.YtijgonjnmibifaaGreatDoorArgsA
namespace Go.Proofs.YtijgonjnmibifaaGreatDoor
open Go.RowKit

/-- the bytes told: as a text -/
noncomputable def asmT (p : List FnM) (a : AsM) : ByteArray := @ite _ (AsmIs p a) (Classical.propDecidable _) ⟨(asmBy a).toArray⟩ ⟨#[]⟩
theorem asmT_of {p : List FnM} {a : AsM} {t : ByteArray} (h : (AsmIs p a ∧ t = ⟨(asmBy a).toArray⟩) ∨ (¬ AsmIs p a ∧ t = ⟨#[]⟩)) : t = asmT p a := by
  unfold asmT
  rcases h with ⟨h1, h2⟩ | ⟨h1, h2⟩
  · rw [if_pos h1, h2]
  · rw [if_neg h1, h2]

theorem implAsmB (A : Option Addr) (cap : Nat) (C : Option Addr) (c : Nat) (D : Option Addr) (d : Nat) (p : List FnM) (a : AsM) (w : World) (ht : Tab w) (hr : FnRow 0 w (.slice A p.length cap) p) (ha : AsRow 0 w (.slice C a.code.length c) (.slice D a.maps.length d) a) (hok : a.ok) :
    Calls Tryz.prog 10 #[.agg #[.slice A p.length cap], .agg #[.int .i64 a.func, .slice C a.code.length c, .slice D a.maps.length d]] w fun e w' => e = .returned (.string (asmT p a)) ∧ Below w.heap.size w w' :=
  (implAsmBytes _ _ _ p a w ht hr ha hok).mono fun _ _ ⟨_, h1, h2, h3⟩ => ⟨by rw [h1, asmT_of h3], h2⟩
theorem specAsmB (A : Option Addr) (cap : Nat) (C : Option Addr) (c : Nat) (D : Option Addr) (d : Nat) (p : List FnM) (a : AsM) (w : World) (hr : FnRow 0 w (.slice A p.length cap) p) (hp : ∀ g ∈ p, g.ok) (ha : AsRow 0 w (.slice C a.code.length c) (.slice D a.maps.length d) a) (hok : a.ok) :
    Calls Tryz.prog 7 #[.agg #[.slice A p.length cap], .agg #[.int .i64 a.func, .slice C a.code.length c, .slice D a.maps.length d]] w fun e w' => e = .returned (.string (asmT p a)) ∧ Below w.heap.size w w' :=
  (specAsmBytes _ _ _ p a w hr hp ha hok).mono fun _ _ ⟨_, h1, h2, h3⟩ => ⟨by rw [h1, asmT_of h3], h2⟩
theorem Box.cell1 {w : World} {b : Nat} {x : Value} (h : Box w b #[x]) : b < w.heap.size ∧ w.cell? ⟨b, 0, none⟩ = some x := ⟨h.1, h.2 0⟩
theorem toPrgA {B : Nat} (v : Value) (p : List FnM) (w : World) (hr : FnRow B w v p) (hn : bulk p ≤ 1048576) :
    Calls Tryz.prog 8 #[.agg #[v]] w fun e w' => ∃ A c, e = .returned (.agg #[.slice A p.length c]) ∧ FnRow w.heap.size w' (.slice A p.length c) p ∧ Below w.heap.size w w' := by
  refine Calls.mono (toPrg v p w hr hn) ?_
  rintro e w' ⟨v', rfl, hP, hb⟩
  obtain ⟨A, c, rfl⟩ := hP.form
  exact ⟨A, c, rfl, hP, hb⟩

theorem toAsmR {B : Nat} (x y : Value) (a : AsM) (w : World) (hr : AsRow B w x y a) (hn : a.bulk ≤ 1048576) :
    Calls Tryz.prog 9 #[.agg #[.int .i64 a.func, x, y]] w fun e w' => ∃ A c D d, e = .returned (.agg #[.int .i64 a.func, .slice A a.code.length c, .slice D a.maps.length d]) ∧ AsRow w.heap.size w' (.slice A a.code.length c) (.slice D a.maps.length d) a ∧ Below w.heap.size w w' := toAsm x y a w hr hn

set_option maxRecDepth 100000 in
set_option maxHeartbeats 6400000 in
theorem lawExactAsmBytes (v0 v1 : Value) (w : World) (i0 : IsProgram w v0) (i1 : IsAsm w v1) (tab : Tab w) :
    Calls Tryz.prog 3 #[v0, v1] w fun e w' => e = .returned (.bool true) ∧ Below w.heap.size w w' := by
  obtain ⟨x, s, rfl, hr, hok⟩ := i0
  have Hok : Hid (∀ g ∈ s, g.ok) := hok
  have Htab : Hid (Tab w) := tab
  clear hok tab
  obtain ⟨x', y', t, rfl, ht, hao⟩ := i1
  have Hao : Hid t.ok := hao
  clear hao
  obtain ⟨A1, a1, rfl⟩ := hr.form
  obtain ⟨D1, d1, rfl⟩ := ht.1.form
  obtain ⟨D2, d2, rfl⟩ := ht.2.form
  have Hr : Hid (FnRow 0 w (.slice A1 s.length a1) s) := hr
  have Hs : Hid (AsRow 0 w (.slice D1 t.code.length d1) (.slice D2 t.maps.length d2) t) := ht
  clear hr ht
  unfold asV
  obtain ⟨x0, x1, x2⟩ := boxes_new w #[.slice A1 s.length a1] #[.int .i64 t.func, .slice D1 t.code.length d1, .slice D2 t.maps.length d2] 24 28
  have X0 : Hid (Box _ w.heap.size #[.slice A1 s.length a1]) := x0
  have X1 : Hid (AsBox _ (w.heap.size + 1) (.slice D1 t.code.length d1) (.slice D2 t.maps.length d2) t) := x1
  have X2 : Hid (Below w.heap.size w _) := x2
  clear x0 x1 x2
  go_enter Tryz.func3, Tryz.ntmps3
  go_wp2_with fail
  refine (szPrg (.slice A1 s.length a1) s 1048576 _ (Hr.out.below X2.out) (by omega) (by omega)).mono ?_
  rintro e w1 ⟨rfl, hb1⟩
  have Hb1 : Hid (Below w.heap.size w w1) := X2.out.trans (hb1.mono X2.out.size)
  have Hk : Hid (∀ w', Below w1.heap.size w1 w' → Box w' w.heap.size #[.slice A1 s.length a1] ∧ AsBox w' (w.heap.size + 1) (.slice D1 t.code.length d1) (.slice D2 t.maps.length d2) t ∧ FnRow 0 w' (.slice A1 s.length a1) s ∧ AsRow 0 w' (.slice D1 t.code.length d1) (.slice D2 t.maps.length d2) t) := by
    intro w' h
    exact ⟨(X0.out.below hb1).below h, (X1.out.below hb1).below h, (Hr.out.below Hb1.out).below h, (Hs.out.below Hb1.out).below h⟩
  have Ht1 : Hid (Tab w1) := Htab.out.below Hb1.out
  clear hb1 X0 X1 X2 Hr Hs Htab
  obtain ⟨e7, e0, e1, e2⟩ := (Hk.out w1 (Below.refl _ _)).2.1.cells
  by_cases hc : (bulk s) ≤ 1048576
  case neg =>
    rw [show less 1048576 (bulk s) = -1 by unfold less; rw [if_neg (by omega)]]
    go_wp2_with fail
    go_ret
    exact ⟨rfl, Hb1.out⟩
  rw [show less 1048576 (bulk s) = 1048576 - (bulk s) by unfold less; rw [if_pos (by omega)]]
  go_wp2_with fail
  refine (szAsm (.slice D1 t.code.length d1) (.slice D2 t.maps.length d2) t _ _ (Hk.out w1 (Below.refl _ _)).2.2.2 (by omega) (by omega)).mono ?_
  rintro e w2 ⟨rfl, hb2⟩
  have Hb2 : Hid (Below w1.heap.size w1 w2) := hb2
  clear hb2 e7 e0 e1 e2
  by_cases hd : (t.bulk : Int) ≤ 1048576 - (bulk s)
  case neg =>
    rw [show less (1048576 - (bulk s : Int)) t.bulk = -1 by unfold less; rw [if_neg (by omega)]]
    go_wp2_with fail
    go_ret
    exact ⟨rfl, Hb1.out.trans (Hb2.out.mono Hb1.out.size)⟩
  rw [show less (1048576 - (bulk s : Int)) t.bulk = 1048576 - (bulk s) - t.bulk by unfold less; rw [if_pos (by omega)]]
  have hd' : t.bulk ≤ 1048576 := by omega
  obtain ⟨c7, c0⟩ := (Hk.out w2 Hb2.out).1.cell1
  obtain ⟨e7, e0, e1, e2⟩ := (Hk.out w2 Hb2.out).2.1.cells
  go_upto_region 8 with fail
  go_cut [6] (fun q wc => q = .string (asmT s t) ∧ Below w1.heap.size w1 wc)
  case first =>
    go_region_with (first
      | (go_at_call 8; refine (toPrgA (.slice A1 s.length a1) s _ (Hk.out _ (by first | exact Hb2.out.drew | exact hbQ)).2.2.1 hc).mono ?_; rintro e wP ⟨P1, p1, rfl, hP, hbP0⟩
         have hbP : Below w1.heap.size w1 wP := (by first | exact Hb2.out.drew.trans (hbP0.mono Hb2.out.size) | exact hbQ.trans (hbP0.mono hbQ.size))
         obtain ⟨f7, f0, f1, f2⟩ := (Hk.out wP hbP).2.1.cells)
      | (go_at_call 9; refine (toAsmR (.slice D1 t.code.length d1) (.slice D2 t.maps.length d2) t _ (Hk.out _ (by first | exact Hb2.out.drew | exact hbP)).2.2.2 hd').mono ?_; rintro e wQ ⟨Q1, q1, Q2, q2, rfl, hQ, hbQ0⟩
         have hbQ : Below w1.heap.size w1 wQ := (by first | exact Hb2.out.drew.trans (hbQ0.mono Hb2.out.size) | exact hbP.trans (hbQ0.mono hbP.size))
         obtain ⟨g7, g0⟩ := (Hk.out wQ hbQ).1.cell1)
      | (go_at_call 7; refine (specAsmB P1 p1 Q1 q1 Q2 q2 s t _ (by first | exact hP.lower (Nat.zero_le _) | exact (hP.lower (Nat.zero_le _)).below hbQ0) Hok.out (by first | exact hQ.lower (Nat.zero_le _) | exact (hQ.lower (Nat.zero_le _)).below hbP0) Hao.out).mono ?_; rintro e wT ⟨rfl, hbT0⟩
         have hbT : Below w1.heap.size w1 wT := (by first | exact hbQ.trans (hbT0.mono hbQ.size) | exact hbP.trans (hbT0.mono hbP.size))))
    all_goals
      go_wp2_with fail
      go_meet
      exact ⟨rfl, hbT⟩
  case rest =>
    obtain ⟨rfl, hwc⟩ := hcut
    have Hc : Hid (Below w1.heap.size w1 wc) := hwc
    clear c0 c7 e0 e1 e2 e7 hwc
    obtain ⟨c7, c0⟩ := (Hk.out wc Hc.out).1.cell1
    go_wp2_with fail
    refine (toPrgA (.slice A1 s.length a1) s _ (Hk.out _ Hc.out).2.2.1 hc).mono ?_
    rintro e w4 ⟨P1, p1, rfl, hX, hb4⟩
    have Hb4 : Hid (Below w1.heap.size w1 w4) := Hc.out.trans (hb4.mono Hc.out.size)
    have HX : Hid (FnRow 0 w4 (.slice P1 s.length p1) s) := hX.lower (Nat.zero_le _)
    have hal4 : Below w4.heap.size w4 (w4.alloc (.cells #[.slice P1 s.length p1] 34)) := (Below.refl _ _).alloc (Nat.le_refl _) _
    have Hal4 : Hid (Below w4.heap.size w4 (w4.alloc (.cells #[.slice P1 s.length p1] 34))) := hal4
    have Hb4a : Hid (Below w1.heap.size w1 (w4.alloc (.cells #[.slice P1 s.length p1] 34))) := Hb4.out.trans (hal4.mono Hb4.out.size)
    have B4 : Hid (Box (w4.alloc (.cells #[.slice P1 s.length p1] 34)) w4.heap.size #[.slice P1 s.length p1]) := box_new w4 _ 34
    clear c0 c7 hX hb4 hal4
    obtain ⟨e7, e0, e1, e2⟩ := (Hk.out w4 Hb4.out).2.1.cells
    go_wp2_with fail
    refine (toAsmR (.slice D1 t.code.length d1) (.slice D2 t.maps.length d2) t _ (Hk.out _ Hb4a.out).2.2.2 hd').mono ?_
    rintro e w6 ⟨Q1, q1, Q2, q2, rfl, hY, hb6⟩
    have Hb6 : Hid (Below w1.heap.size w1 w6) := Hb4a.out.trans (hb6.mono Hb4a.out.size)
    have HX6 : Hid (FnRow 0 w6 (.slice P1 s.length p1) s) := (HX.out.below Hal4.out).below hb6
    have HY6 : Hid (AsRow 0 w6 (.slice Q1 t.code.length q1) (.slice Q2 t.maps.length q2) t) := hY.lower (Nat.zero_le _)
    have B6 : Hid (Box w6 w4.heap.size #[.slice P1 s.length p1]) := B4.out.below hb6
    have hal6 : Below w6.heap.size w6 (w6.alloc (.cells #[.int .i64 t.func, .slice Q1 t.code.length q1, .slice Q2 t.maps.length q2] 39)) := (Below.refl _ _).alloc (Nat.le_refl _) _
    obtain ⟨w7, hw7⟩ : ∃ w7, w7 = w6.alloc (.cells #[.int .i64 t.func, .slice Q1 t.code.length q1, .slice Q2 t.maps.length q2] 39) := ⟨_, rfl⟩
    rw [← hw7] at hal6
    have C6 : Hid (AsBox w7 w6.heap.size (.slice Q1 t.code.length q1) (.slice Q2 t.maps.length q2) t) := by rw [hw7]; exact asBox_new w6 _ _ t 39
    have Hk2 : Hid (∀ w', Below w7.heap.size w7 w' → Box w' w4.heap.size #[.slice P1 s.length p1] ∧ AsBox w' w6.heap.size (.slice Q1 t.code.length q1) (.slice Q2 t.maps.length q2) t ∧ FnRow 0 w' (.slice P1 s.length p1) s ∧ AsRow 0 w' (.slice Q1 t.code.length q1) (.slice Q2 t.maps.length q2) t ∧ Below w1.heap.size w1 w') := by
      intro w' h
      exact ⟨(B6.out.below hal6).below h, C6.out.below h, (HX6.out.below hal6).below h, (HY6.out.below hal6).below h, Hb6.out.trans ((hal6.trans (h.mono hal6.size)).mono Hb6.out.size)⟩
    obtain ⟨c7, c0⟩ := B6.out.cell1
    clear e0 e1 e2 e7 hY hb6 B4 B6 C6 hal6
    go_wp2_with fail
    rw [← hw7]
    refine (implAsmB P1 p1 Q1 q1 Q2 q2 s t _ (Ht1.out.below (Hk2.out _ (Below.refl _ _)).2.2.2.2) (Hk2.out _ (Below.refl _ _)).2.2.1 (Hk2.out _ (Below.refl _ _)).2.2.2.1 Hao.out).mono ?_
    rintro e w8 ⟨rfl, hb8⟩
    have Hb8 : Hid (Below w7.heap.size w7 w8) := hb8
    have H18 : Hid (Below w1.heap.size w1 w8) := (Hk2.out w8 hb8).2.2.2.2
    clear c0 c7 hb8 HX6 HY6 HX Hb4a hw7
    obtain ⟨c7, c0⟩ := (Hk.out w8 H18.out).1.cell1
    obtain ⟨e7, e0⟩ := (Hk2.out w8 Hb8.out).1.cell1
    go_upto_region 14 with fail
    go_cut [39] (fun q wc => q = .bool false ∧ Below w7.heap.size w7 wc)
    case first =>
      go_region_with (first
        | (go_at_call 8; refine (toPrgA (.slice A1 s.length a1) s _ (Hk.out _ H18.out.drew).2.2.1 hc).mono ?_; rintro e wP ⟨R1, r1, rfl, hP, hbP⟩
           have hbP' := Hb8.out.drew.trans (hbP.mono Hb8.out.size)
           obtain ⟨f7, f0⟩ := (Hk2.out wP hbP').1.cell1)
        | (go_at_call 11; refine (eqPrg (.slice P1 s.length p1) (.slice R1 s.length r1) s _ (Hk2.out wP hbP').2.2.1 hP).mono ?_; rintro e wQ ⟨rfl, hbQ⟩
           have hbQ' := hbP'.trans (hbQ.mono hbP'.size)))
      all_goals
        go_wp2_with fail
        go_meet
        exact ⟨rfl, hbQ'⟩
    case rest =>
      obtain ⟨rfl, hwc⟩ := hcut
      have Hb9 : Hid (Below w7.heap.size w7 wc) := hwc
      have H19 : Hid (Below w1.heap.size w1 wc) := (Hk2.out wc hwc).2.2.2.2
      clear c0 c7 e0 e7 hwc
      obtain ⟨c7, c0, c1, c2⟩ := (Hk.out wc H19.out).2.1.cells
      obtain ⟨e7, e0, e1, e2⟩ := (Hk2.out wc Hb9.out).2.1.cells
      go_upto_region 16 with fail
      go_cut [44] (fun q we => q = .bool false ∧ Below w.heap.size w we)
      case first =>
        go_region_with (first
          | (go_at_call 9; refine (toAsmR (.slice D1 t.code.length d1) (.slice D2 t.maps.length d2) t _ (Hk.out _ H19.out.drew).2.2.2 hd').mono ?_; rintro e wP ⟨R1, r1, R2, r2, rfl, hP, hbP⟩
             have hbP' := Hb9.out.drew.trans (hbP.mono Hb9.out.size)
             obtain ⟨f7, f0, f1, f2⟩ := (Hk2.out wP hbP').2.1.cells)
          | (go_at_call 12; refine (eqAsm (.slice Q1 t.code.length q1) (.slice Q2 t.maps.length q2) (.slice R1 t.code.length r1) (.slice R2 t.maps.length r2) t _ (Hk2.out wP hbP').2.2.2.1 hP).mono ?_; rintro e wQ ⟨rfl, hbQ⟩
             have hbQ' : Below w.heap.size w wQ := Hb1.out.trans ((Hk2.out wQ (hbP'.trans (hbQ.mono hbP'.size))).2.2.2.2.mono Hb1.out.size)))
        all_goals
          go_wp2_with fail
          go_meet
          exact ⟨rfl, hbQ'⟩
      case rest =>
        obtain ⟨rfl, hwe⟩ := hcut
        have He : Hid (Below w.heap.size w wc) := hwe
        clear hwe
        go_wp2_with fail
        go_ret
        exact ⟨rfl, He.out⟩
end Go.Proofs.YtijgonjnmibifaaGreatDoor
