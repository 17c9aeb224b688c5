/- A step of the machine. -/
import Derived.Test.YtnknnncehcofnaaGreatDoorJ26MacH
namespace Go.Proofs.YtnknnncehcofnaaGreatDoor
open Go.RowKit

theorem iteP {P : Nat → Prop} {c : Prop} [Decidable c] {a b : Nat} (ha : P a) (hb : P b) : P (if c then a else b) := by split <;> assumption

theorem enter_doF (o : Nat) : ∀ (args : Array Value) (w : World), (callFunc (doF o) args).run Tryz.prog w = .ok (.enter (doF o) args) w := by
  unfold doF
  refine iteP (P := fun F => ∀ (args : Array Value) (w : World), (callFunc F args).run Tryz.prog w = .ok (.enter F args) w) Tryz.call122 ?_
  refine iteP (P := fun F => ∀ (args : Array Value) (w : World), (callFunc F args).run Tryz.prog w = .ok (.enter F args) w) Tryz.call123 ?_
  refine iteP (P := fun F => ∀ (args : Array Value) (w : World), (callFunc F args).run Tryz.prog w = .ok (.enter F args) w) Tryz.call124 ?_
  refine iteP (P := fun F => ∀ (args : Array Value) (w : World), (callFunc F args).run Tryz.prog w = .ok (.enter F args) w) Tryz.call125 ?_
  refine iteP (P := fun F => ∀ (args : Array Value) (w : World), (callFunc F args).run Tryz.prog w = .ok (.enter F args) w) Tryz.call126 ?_
  refine iteP (P := fun F => ∀ (args : Array Value) (w : World), (callFunc F args).run Tryz.prog w = .ok (.enter F args) w) Tryz.call136 ?_
  refine iteP (P := fun F => ∀ (args : Array Value) (w : World), (callFunc F args).run Tryz.prog w = .ok (.enter F args) w) Tryz.call137 ?_
  refine iteP (P := fun F => ∀ (args : Array Value) (w : World), (callFunc F args).run Tryz.prog w = .ok (.enter F args) w) Tryz.call127 ?_
  refine iteP (P := fun F => ∀ (args : Array Value) (w : World), (callFunc F args).run Tryz.prog w = .ok (.enter F args) w) Tryz.call128 ?_
  refine iteP (P := fun F => ∀ (args : Array Value) (w : World), (callFunc F args).run Tryz.prog w = .ok (.enter F args) w) Tryz.call129 ?_
  refine iteP (P := fun F => ∀ (args : Array Value) (w : World), (callFunc F args).run Tryz.prog w = .ok (.enter F args) w) Tryz.call130 ?_
  refine iteP (P := fun F => ∀ (args : Array Value) (w : World), (callFunc F args).run Tryz.prog w = .ok (.enter F args) w) Tryz.call131 ?_
  refine iteP (P := fun F => ∀ (args : Array Value) (w : World), (callFunc F args).run Tryz.prog w = .ok (.enter F args) w) Tryz.call132 ?_
  refine iteP (P := fun F => ∀ (args : Array Value) (w : World), (callFunc F args).run Tryz.prog w = .ok (.enter F args) w) Tryz.call133 ?_
  refine iteP (P := fun F => ∀ (args : Array Value) (w : World), (callFunc F args).run Tryz.prog w = .ok (.enter F args) w) Tryz.call134 ?_
  exact Tryz.call135

set_option maxRecDepth 100000 in
set_option maxHeartbeats 3200000 in
theorem implStep {p : List FnM} {s : StM} {low : List FrM} {f : FrM} {i j : Nat} {hs : List Int} (S : Stand p s low f i j hs) (hsm : ∀ g ∈ s.frames, g.stack.length ≤ 1048575)
    (B m D : Nat) (vp : PV) (own : Nat → Nat → Tag) (V : Tag → Value) (C : Tag → List Value) (w : World) (M : Mac B m 1 (prOf vp) own w V C s)
    (hP : ∀ w', Below B w w' → FnRow 0 w' vp.v p ∧ Tab w') (hD : ∀ j, own D j = .no) (hDm : D ≠ m) (hDl : D < w.heap.size)
    (hDc : ∀ op : Nat, (1 ≤ op ∧ op ≤ 5) ∨ (10 ≤ op ∧ op ≤ 38) → w.cell? ⟨D, op, none⟩ = some (fnV m (doF op))) :
    Calls Tryz.prog 64 #[.pointer (some ⟨m, 0, none⟩), .slice (some ⟨D, 0, none⟩) 39 39] w fun e w' => MacTold B m vp (stepM p s) (.tuple #[]) w w' e := by
  obtain ⟨vv, fx⟩ := vp
  have hP : ∀ w', Below B w w' → FnRow 0 w' vv p ∧ Tab w' := hP
  have HS : Hid (Stand p s low f i j hs) := S
  have HM0 : Hid (Mac B m 1 (prOf ⟨vv, fx⟩) own w V C s) := M
  have HP : Hid (∀ w', Below B w w' → FnRow 0 w' vv p ∧ Tab w') := hP
  have hi := S.hi
  have hj := S.hj
  have hten := S.ten
  have hfunc : f.func = (i : Int) := S.func
  have hpc : f.pc = (j : Int) := S.pc
  have hfu := S.fuel
  have hcl : (fnAt p i).code.length ≤ 1000 := by obtain ⟨w1, _, _⟩ := ((S.right.all.2.2 i hi).well rfl); simp [formOk] at w1; omega
  have hfa : fnAt p i = p[i] := by unfold fnAt; simp [hi]
  rw [hfa] at hj hcl
  obtain ⟨b, off, cap, c1, T, hT⟩ := M.topI S.frames
  have t0 := T.c0
  have t1 := T.c1
  have f1 := T.f1
  have tl := T.lt
  have tne := T.ne
  rw [hfunc] at t0
  rw [hpc] at t1
  have cz := M.lt
  have hVf : V .fr = .slice (some ⟨b, off, none⟩) (low.length + 1) cap := T.slice
  have c0 : w.cell? ⟨m, 0, none⟩ = some vv := M.pre.1 0 (by omega)
  have c4 := M.mcell.2.2.2.1
  have g4 : w.frozen? ⟨m, 4, none⟩ = false := (M.cs 3 (by omega)).2
  obtain ⟨Ap, capp, rfl⟩ := (hP w (Below.refl _ _)).1.form
  obtain ⟨bp, op0, xc, rfl, hbp, -, -, q2, hIns⟩ := (hP w (Below.refl _ _)).1.at i hi
  obtain ⟨Ac, capc, rfl⟩ : ∃ A cap, xc = .slice A p[i].code.length cap := by obtain ⟨A, cap, h, _⟩ := hIns; exact ⟨A, cap, h⟩
  obtain ⟨bc, oc, rfl, hbc, r0, r1⟩ := hIns.at j hj
  clear hIns
  have HT : Hid (TopAt V w m low.length b off cap f (V (.loc low.length)) (V (.stk low.length))) := T
  clear S M T hT hP
  go_enter Tryz.func64, Tryz.ntmps64
  go_wp2_with fail
  refine (implLast m b off low.length cap w c1 (by omega)).mono ?_
  rintro e wq ⟨rfl, q, hq⟩
  have key : ∀ a, wq.cell? a = w.cell? a := fun a => by rw [hq]; rfl
  have keyf : ∀ a, wq.frozen? a = w.frozen? a := fun a => by rw [hq]; rfl
  have keys : wq.heap.size = w.heap.size := by rw [hq]; rfl
  have Hbq : Hid (Below B w wq) := by show Below B w wq; rw [hq]; exact below_drewN (Below.refl _ _) q
  have HM1 : Hid (Mac B m 1 (prOf ⟨.slice (some ⟨bp, op0, none⟩) p.length capp, fx⟩) own wq V C s) := by show Mac _ _ _ _ _ _ _ _ _; rw [hq]; exact HM0.out.below (below_drewN (Below.refl _ _) q)
  rw [← key] at c0 c1 t0 t1 c4 q2 r0 r1
  rw [← keyf] at f1 g4
  rw [← keys] at tl cz hbp hbc hDl
  simp only [← key] at hDc
  clear key keyf keys hq HM0 HT
  go_wp2_with fail
  go_region
  obtain ⟨op, x, hox⟩ : ∃ op x, p[i].code[j] = (op, x) := ⟨_, _, rfl⟩
  rw [hox]
  rw [hox] at r0 r1
  obtain ⟨W, hW⟩ : ∃ W, W = (wq.alloc (.cells #[.int .i64 op, .int .i64 x] 112)).drew := ⟨_, rfl⟩
  have hwb : Below wq.heap.size wq W := by rw [hW]; exact ((Below.refl _ _).alloc (Nat.le_refl _) _).drew
  have hbox : Box W wq.heap.size #[.int .i64 op, .int .i64 x] := by rw [hW]; exact box_new wq _ _
  have i0 := hbox.at0
  have i1 := hbox.at1
  have iz := hbox.1
  show Exit.then _ _ Exit.normal _ (wq.alloc (.cells #[.int .i64 op, .int .i64 x] 112)).drew
  rw [← hW]
  clear hW
  have HM2 : Hid (Mac B m 1 (prOf ⟨.slice (some ⟨bp, op0, none⟩) p.length capp, fx⟩) (cutOwn wq.heap.size own) W V C s) := HM1.out.cutOwn.below hwb
  have HbW : Hid (Below B w W) := Hbq.out.trans (hwb.mono (Nat.le_of_lt (Nat.lt_of_le_of_lt HM1.out.base HM1.out.lt)))
  have hD2 : ∀ j, cutOwn wq.heap.size own D j = .no := fun j => by show (if D < wq.heap.size then own D j else .no) = _; rw [if_pos hDl, hD]
  have hop : insAt (fnAt p i).code j = (op, x) := by unfold insAt; rw [hfa, List.getD_eq_getElem?_getD, List.getElem?_eq_getElem hj, hox]; rfl
  have hro : (1 ≤ op ∧ op ≤ 5) ∨ (10 ≤ op ∧ op ≤ 38) := by have h := HS.out.ins; rw [hop] at h; exact right_op h
  obtain ⟨o, rfl⟩ := Int.eq_ofNat_of_zero_le (show 0 ≤ op by omega)
  have hDw := hDc o (by omega)
  rw [← hwb.cell (by exact hDl)] at hDw
  rw [← hwb.cell (by exact cz)] at c4
  rw [← hwb.cell (by exact tl)] at t1
  rw [← hwb.frozen (by exact cz)] at g4
  rw [← hwb.frozen (by exact tl)] at f1
  have hDne : D ≠ wq.heap.size := by omega
  have hmne : m ≠ wq.heap.size := by omega
  have hbne : b ≠ wq.heap.size := by omega
  have hDW : D < W.heap.size := Nat.lt_of_lt_of_le hDl hwb.size
  have hmW : m < W.heap.size := Nat.lt_of_lt_of_le cz hwb.size
  have hbW : b < W.heap.size := Nat.lt_of_lt_of_le tl hwb.size
  have hbD : b ≠ D := by
    obtain ⟨b', off', cap', e, _, hT⟩ := HM1.out.topI HS.out.frames
    rw [c1] at e
    simp only [Option.some.injEq, Value.slice.injEq, Addr.mk.injEq, and_true] at e
    obtain ⟨⟨rfl, rfl⟩, -, rfl⟩ := e
    intro h
    subst h
    have := hT 0 (hD _)
    omega
  clear hDc hDl r0 r1 q2 c0 c1 t0 hbp hbc cz tl hwb hbox HM1 Hbq
  go_wp2_with fail
  have HM3 : Hid (∃ C3, Mac B m 1 (prOf ⟨.slice (some ⟨bp, op0, none⟩) p.length capp, fx⟩) (cutOwn wq.heap.size own) ((W.setCell ⟨m, 4, none⟩ (.int .i64 (s.fuel - 1))).setCell ⟨b, off + low.length * 4 + 1, none⟩ (.int .i64 ((j : Int) + 1))) V C3 (midM s low f) ∧ Below B W ((W.setCell ⟨m, 4, none⟩ (.int .i64 (s.fuel - 1))).setCell ⟨b, off + low.length * 4 + 1, none⟩ (.int .i64 ((j : Int) + 1)))) := by
    obtain ⟨Ma, ba⟩ := HM2.out.field (s' := { s with fuel := s.fuel - 1 }) 3 (by omega) (.int .i64 (s.fuel - 1)) rfl rfl rfl rfl
    obtain ⟨C3, Mb, bb⟩ := Ma.pcTop (low := low) (f := f) HS.out.frames ((j : Int) + 1) hVf
    refine ⟨C3, ?_, ba.trans bb⟩
    have e : midM s low f = onTop { s with fuel := s.fuel - 1 } low ⟨f.func, (j : Int) + 1, f.locals, f.stack⟩ := by unfold midM onTop; rw [hpc]
    rw [e]
    exact Mb
  have k0 : ((W.setCell ⟨m, 4, none⟩ (.int .i64 (s.fuel - 1))).setCell ⟨b, off + low.length * 4 + 1, none⟩ (.int .i64 ((j : Int) + 1))).cell? ⟨wq.heap.size, 0, none⟩ = some (.int .i64 o) := by
    rw [World.cell?_setCell_other _ _ _ _ (by intro e; simp only [Addr.mk.injEq] at e; omega), World.cell?_setCell_other _ _ _ _ (by intro e; simp only [Addr.mk.injEq] at e; omega)]; exact i0
  have k1 : ((W.setCell ⟨m, 4, none⟩ (.int .i64 (s.fuel - 1))).setCell ⟨b, off + low.length * 4 + 1, none⟩ (.int .i64 ((j : Int) + 1))).cell? ⟨wq.heap.size, 1, none⟩ = some (.int .i64 x) := by
    rw [World.cell?_setCell_other _ _ _ _ (by intro e; simp only [Addr.mk.injEq] at e; omega), World.cell?_setCell_other _ _ _ _ (by intro e; simp only [Addr.mk.injEq] at e; omega)]; exact i1
  have kD : ((W.setCell ⟨m, 4, none⟩ (.int .i64 (s.fuel - 1))).setCell ⟨b, off + low.length * 4 + 1, none⟩ (.int .i64 ((j : Int) + 1))).cell? ⟨D, o, none⟩ = some (fnV m (doF o)) := by
    rw [World.cell?_setCell_other _ _ _ _ (by intro e; simp only [Addr.mk.injEq] at e; omega), World.cell?_setCell_other _ _ _ _ (by intro e; simp only [Addr.mk.injEq] at e; omega)]; exact hDw
  have kz : ((W.setCell ⟨m, 4, none⟩ (.int .i64 (s.fuel - 1))).setCell ⟨b, off + low.length * 4 + 1, none⟩ (.int .i64 ((j : Int) + 1))).heap.size = W.heap.size := by simp
  obtain ⟨W2, hW2⟩ : ∃ W2, W2 = (W.setCell ⟨m, 4, none⟩ (.int .i64 (s.fuel - 1))).setCell ⟨b, off + low.length * 4 + 1, none⟩ (.int .i64 ((j : Int) + 1)) := ⟨_, rfl⟩
  rw [← hW2] at HM3 k0 k1 kD kz ⊢
  clear hW2 hDw c4 t1 g4 f1 i0 i1
  obtain ⟨C3, M3, hb3⟩ := HM3.out
  have Hb3 : Hid (Below B w W2.drew) := (HbW.out.trans hb3).drew
  have hI : MacI B m ⟨.slice (some ⟨bp, op0, none⟩) p.length capp, fx⟩ W2.drew (midM s low f) := ⟨_, _, _, M3.below (Below.refl _ _).drew⟩
  obtain ⟨s', t, hDo, hBe⟩ := doing_is HS.out hsm B m _ W2.drew hI (fun w' h => HP.out w' (Hb3.out.trans h)) o x hop
  rw [Int.toNat_natCast] at hDo
  have HDo : Hid (Calls Tryz.prog (doF o) #[.pointer (some ⟨m, 0, none⟩), .agg #[.int .i64 o, .int .i64 x]] W2.drew fun e w' => MacTold B m ⟨.slice (some ⟨bp, op0, none⟩) p.length capp, fx⟩ s' (.int .i64 t) W2.drew w' e) := hDo
  have HBe : Hid (behindT s' t = stepM p s) := hBe
  have eF := enter_doF o
  unfold fnV at kD
  rw [← kz] at hDW hmW hbW iz
  have ho39 : o < 39 := by omega
  clear HM3 M3 hb3 hI hDo hBe HM2 HbW kz hop hro hfu hVf hD hD2 hsm
  generalize doF o = F at kD eF HDo
  go_region_with (refine Calls.mono (R := fun e w' => MacTold B m ⟨.slice (some ⟨bp, op0, none⟩) p.length capp, fx⟩ s' (.int .i64 t) W2.drew w' e) HDo.out ?_; rintro e w3 ⟨rfl, hI3, hb3⟩)
  all_goals
    have Hb4 : Hid (Below B W2.drew w3) := hb3
    clear hb3 HDo eF kD k0 k1
    by_cases ht : t = 0
    · have hs' : s' = stepM p s := by have h := HBe.out; unfold behindT at h; rw [if_pos ht] at h; exact h
      rw [hs'] at hI3
      have HI3 : Hid (MacI B m ⟨.slice (some ⟨bp, op0, none⟩) p.length capp, fx⟩ w3 (stepM p s)) := hI3
      clear hI3 hs' HBe
      subst ht
      go_wp2_with fail
      go_end0
      exact ⟨rfl, HI3.out, Hb3.out.trans Hb4.out⟩
    · have hE : endedM s' 0 t = stepM p s := by have h := HBe.out; unfold behindT at h; rw [if_neg ht] at h; exact h
      have hEnd := implEnd B m _ s' 0 t w3 hI3
      rw [hE] at hEnd
      have HEnd : Hid (Calls Tryz.prog 121 #[.pointer (some ⟨m, 1, none⟩), .int .i64 0, .int .i64 t] w3 fun e w' => MacTold B m ⟨.slice (some ⟨bp, op0, none⟩) p.length capp, fx⟩ (stepM p s) (.tuple #[]) w3 w' e) := hEnd
      clear hEnd hI3 hE HBe
      go_wp2_with fail
      refine Calls.mono (R := fun e w' => MacTold B m ⟨.slice (some ⟨bp, op0, none⟩) p.length capp, fx⟩ (stepM p s) (.tuple #[]) w3 w' e) HEnd.out ?_
      rintro e w4 ⟨rfl, hI4, hb5⟩
      have HI4 : Hid (MacI B m ⟨.slice (some ⟨bp, op0, none⟩) p.length capp, fx⟩ w4 (stepM p s)) := hI4
      have Hb5 : Hid (Below B w3 w4) := hb5
      clear hI4 hb5 HEnd
      go_wp2_with fail
      go_end0
      exact ⟨rfl, HI4.out, (Hb3.out.trans Hb4.out).trans Hb5.out⟩
end Go.Proofs.YtnknnncehcofnaaGreatDoor
