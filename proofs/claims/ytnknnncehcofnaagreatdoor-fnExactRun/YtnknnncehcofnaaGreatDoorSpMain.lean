/- spec.l06Step. -/
import Derived.Test.YtnknnncehcofnaaGreatDoorTlAll
import Derived.Deep.CutBlock
namespace Go.Proofs.YtnknnncehcofnaaGreatDoor
open Go.RowKit

set_option maxRecDepth 100000 in
set_option maxHeartbeats 3200000 in
theorem specStepL {p : List FnM} {s : StM} {low : List FrM} {f : FrM} {i j : Nat} {hs : List Int} (S : Stand p s low f i j hs)
    (B m : Nat) (vp : Value) (w : World) (hM : MacZ B m w s)
    (hP : ∀ w', Below B w w' → FnRow 0 w' vp p ∧ Tab w') :
    Calls Tryz.prog 56 #[.agg #[vp], .pointer (some ⟨m, 0, none⟩)] w fun e w' => MacZT B m (stepM p s) (.tuple #[]) w w' e := by
  obtain ⟨own, V, C, M0⟩ := hM
  have HS : Hid (Stand p s low f i j hs) := S
  have HP : Hid (∀ w', Below B w w' → FnRow 0 w' vp p ∧ Tab w') := hP
  have hi := S.hi
  have hj := S.hj
  have hten := S.ten
  have hfunc : f.func = (i : Int) := S.func
  have hpc : f.pc = (j : Int) := S.pc
  have hfu := S.fuel
  have hcl : (fnAt p i).code.length ≤ 1000 := by obtain ⟨w1, _, _⟩ := ((S.right.all.2.2 i hi).well rfl); simp [formOk] at w1; omega
  have hfa : fnAt p i = p[i] := by unfold fnAt; simp [hi]
  rw [hfa] at hj hcl
  have hB : B ≤ w.heap.size := Nat.le_of_lt (Nat.lt_of_le_of_lt M0.base M0.lt)
  obtain ⟨c0, c1, c2, c3, c4, c5, c6⟩ := M0.zcell
  have g3 := M0.zthaw 3 (by omega)
  have hm := M0.lt
  obtain ⟨Ap, capp, rfl⟩ := (hP w (Below.refl _ _)).1.form
  -- the world behind the first two doings
  obtain ⟨W, hW⟩ : ∃ W, W = (w.setCell ⟨m, 3, none⟩ (.int .i64 (s.fuel - 1))).alloc (.cells #[.slice Ap p.length capp] 25) := ⟨_, rfl⟩
  have hal : Below (w.setCell ⟨m, 3, none⟩ (.int .i64 (s.fuel - 1))).heap.size (w.setCell ⟨m, 3, none⟩ (.int .i64 (s.fuel - 1))) W := by rw [hW]; exact (Below.refl _ _).alloc (Nat.le_refl _) _
  obtain ⟨M1a, b1a⟩ := M0.field (s' := { s with fuel := s.fuel - 1 }) 3 (by omega) (.int .i64 (s.fuel - 1)) rfl rfl rfl rfl
  rw [Nat.zero_add] at M1a b1a
  have HbW : Hid (Below B w W) := b1a.trans (hal.mono (by simpa using hB))
  have hX : Box W w.heap.size #[.slice Ap p.length capp] := by
    have h := box_new (w.setCell ⟨m, 3, none⟩ (.int .i64 (s.fuel - 1))) #[.slice Ap p.length capp] 25
    rw [← hW] at h
    simpa using h
  have HM1 : Hid (Mac B m 0 noPr (cutOwn w.heap.size own) W V C { s with fuel := s.fuel - 1 }) := by
    have h := M1a.cutOwn.below hal
    simp at h
    exact h
  have hno : ∀ j, cutOwn w.heap.size own w.heap.size j = .no := fun j => by show (if w.heap.size < w.heap.size then _ else _) = _; rw [if_neg (by omega)]
  obtain ⟨P, hPz⟩ : ∃ P, P = w.heap.size := ⟨_, rfl⟩
  have hPm : P ≠ m := by omega
  have hBP : B ≤ P := by omega
  go_enter Tryz.func56, Tryz.ntmps56
  go_wp2_with fail
  rw [← hW, ← hPz]
  rw [← hPz] at hno hX HM1
  have x0 := hX.at0
  have xz := hX.1
  obtain ⟨own1, hown1⟩ : ∃ o, o = cutOwn P own := ⟨_, rfl⟩
  rw [← hown1] at hno HM1
  clear hW hal M1a b1a hX hown1 c0 c1 c2 c3 c4 c5 c6 g3 hm M0 hB hPz
  obtain ⟨c0, c1, c2, c3, c4, c5, c6⟩ := HM1.out.zcell
  have hm := HM1.out.lt
  obtain ⟨b, off, cap, T⟩ := HM1.out.top (low := low) (f := f) HS.out.frames
  have t0 := T.c0
  have t1 := T.c1
  have f1 := T.f1
  have tl := T.lt
  have tne := T.ne
  rw [hfunc] at t0
  rw [hpc] at t1
  have hVf : V .fr = .slice (some ⟨b, off, none⟩) (low.length + 1) cap := T.slice
  rw [hVf] at c0
  obtain ⟨bp, op0, xc, hbq, hbp, -, -, q2, hIns⟩ := (HP.out W HbW.out).1.at i hi
  subst hbq
  obtain ⟨Ac, capc, rfl⟩ : ∃ A cap, xc = .slice A p[i].code.length cap := by obtain ⟨A, cap, h, _⟩ := hIns; exact ⟨A, cap, h⟩
  obtain ⟨bc, oc, rfl, hbc, r0, r1⟩ := hIns.at j hj
  have HT : Hid (TopAt V W m low.length b off cap f (V (.loc low.length)) (V (.stk low.length))) := T
  clear hIns S hP T
  go_region
  go_wp2_with fail
  go_region
  obtain ⟨op, x, hox⟩ : ∃ op x, p[i].code[j] = (op, x) := ⟨_, _, rfl⟩
  rw [hox]
  rw [hox] at r0 r1
  obtain ⟨W2, hW2⟩ : ∃ W2, W2 = (W.alloc (.cells #[.int .i64 op, .int .i64 x] 112)).drew.drew := ⟨_, rfl⟩
  have hwb : Below W.heap.size W W2 := by rw [hW2]; exact ((Below.refl _ _).alloc (Nat.le_refl _) _).drew.drew
  have hbox : Box W2 W.heap.size #[.int .i64 op, .int .i64 x] := by rw [hW2]; exact box_new W _ _
  have i0 := hbox.at0
  have i1 := hbox.at1
  have iz := hbox.1
  have izf : ∀ q, q < 2 → W2.frozen? ⟨W.heap.size, q, none⟩ = false := fun q hq => by
    have h := ((vrow_new W #[.int .i64 op, .int .i64 x] 112).below ((Below.refl _ _).drew.drew)).2 q (by simpa using hq)
    rw [hW2]
    exact h.2
  show Exit.then _ _ Exit.normal _ (W.alloc (.cells #[.int .i64 op, .int .i64 x] 112)).drew.drew
  rw [← hW2]
  clear hW2
  obtain ⟨hIst, As, cs, hVs, hcs⟩ := HM1.out.stkRow (low := low) (f := f) HS.out.frames (by have := HS.out.h8; omega)
  have t3 := HT.out.c3
  have f3 := HT.out.f3
  have t2 := HT.out.c2
  rw [hVs] at t3
  have HM2 : Hid (Mac B m 0 noPr (cutOwn W.heap.size own1) W2 V C { s with fuel := s.fuel - 1 }) := HM1.out.cutOwn.below hwb
  have HbW2 : Hid (Below B w W2) := HbW.out.trans (hwb.mono (by omega))
  have hno2 : ∀ j, cutOwn W.heap.size own1 P j = .no := fun j => by show (if P < W.heap.size then own1 P j else .no) = _; rw [if_pos xz, hno]
  have hno3 : ∀ j, cutOwn W.heap.size own1 W.heap.size j = .no := fun j => by show (if W.heap.size < W.heap.size then _ else _) = _; rw [if_neg (by omega)]
  rw [← hwb.cell (by exact xz)] at x0
  rw [← hwb.cell (by exact tl)] at t1 t2 t3
  rw [← hwb.frozen (by exact tl)] at f1 f3
  have hQ : B ≤ W.heap.size := by omega
  have hQm : W.heap.size ≠ m := by omega
  have hPQ : P ≠ W.heap.size := by omega
  replace xz : P < W2.heap.size := Nat.lt_of_lt_of_le xz hwb.size
  replace hm : m < W2.heap.size := Nat.lt_of_lt_of_le hm hwb.size
  have hbQ : b ≠ W.heap.size := by omega
  replace tl : b < W2.heap.size := Nat.lt_of_lt_of_le tl hwb.size
  have hop : insAt (fnAt p i).code j = (op, x) := by unfold insAt; rw [hfa, List.getD_eq_getElem?_getD, List.getElem?_eq_getElem hj, hox]; rfl
  obtain ⟨Q, hQe⟩ : ∃ Q, Q = W.heap.size := ⟨_, rfl⟩
  rw [← hQe] at hbQ hPQ hQm hQ hno3 hno2 HM2 iz izf i0 i1 ⊢
  obtain ⟨own2, hown2⟩ : ∃ o, o = cutOwn Q own1 := ⟨_, rfl⟩
  rw [← hown2] at hno3 hno2 HM2
  clear HbW HM1 hno c0 c1 c2 c3 c4 c5 c6 t0 hbp q2 hbc r0 r1 HT hIst hwb hbox hQe hown2
  have HTk : Hid (∀ W', Below B w W' → Calls Tryz.prog 109 #[.agg #[.slice (some ⟨bp, op0, none⟩) p.length capp], .agg #[.int .i64 (op : Int), .int .i64 x]] W' fun e w' => e = .returned (.int .i64 (takesM p (op : Int) x)) ∧ Below W'.heap.size W' w') := fun W' h => specTakes _ p (op : Int) x W' (HP.out W' h).1
  have HK2 : Hid (∀ W', Below W2.heap.size W2 W' → W'.cell? ⟨b, off + low.length * 4 + 3, none⟩ = some (.slice As f.stack.length cs) ∧ W'.cell? ⟨P, 0, none⟩ = some (.slice (some ⟨bp, op0, none⟩) p.length capp) ∧ W'.cell? ⟨Q, 0, none⟩ = some (.int .i64 (op : Int)) ∧ W'.cell? ⟨Q, 1, none⟩ = some (.int .i64 x)) := fun W' h =>
    ⟨by rw [h.cell (by exact tl)]; exact t3, by rw [h.cell (by exact xz)]; exact x0, by rw [h.cell (by exact iz)]; exact i0, by rw [h.cell (by exact iz)]; exact i1⟩
  have HZ : Hid (W2.heap.size = W2.heap.size) := rfl
  go_wp2_with fail
  go_region_held3 (fun w' => w'.cell? ⟨b, off + low.length * 4 + 3, none⟩ = some (.slice As f.stack.length cs) ∧ w'.cell? ⟨P, 0, none⟩ = some (.slice (some ⟨bp, op0, none⟩) p.length capp) ∧ w'.cell? ⟨Q, 0, none⟩ = some (.int .i64 (op : Int)) ∧ w'.cell? ⟨Q, 1, none⟩ = some (.int .i64 x))
    (first | (exact ⟨t3, x0, i0, i1⟩) | (exact HY.out))
    (first | (go_at_call 109; refine (HTk.out _ (by exact HbW2.out.drew)).mono ?_; rintro e wA ⟨rfl, hbA⟩
              have HbA : Hid (Below W2.heap.size W2 wA) := (Below.refl _ _).drew.trans hbA
              have HY : Hid (_ ∧ _) := HK2.out wA HbA.out
              clear hbA))
  -- the height behind what is taken
  have hcut := HS.out.cut _ rfl
  rw [hop] at hcut
  simp only at hcut
  have h8 := HS.out.h8
  obtain ⟨k, hk⟩ : ∃ k, k = f.stack.length - (takesM p (op : Int) x).toNat := ⟨_, rfl⟩
  rw [← hk] at hcut
  obtain ⟨hc1, hc2⟩ := hcut
  have hkl : k ≤ f.stack.length := by rw [hk]; omega
  have hkw : IntKind.i64.wrap ((f.stack.length : Int) - takesM p (op : Int) x) = (k : Int) := by
    have : (f.stack.length : Int) - takesM p (op : Int) x = (k : Int) := by rw [List.length_take, Nat.min_eq_left hkl] at hc1; omega
    rw [this, IntKind.wrap_i64]; omega
  rw [hkw]
  have Hk : Hid (k = f.stack.length - (takesM p (op : Int) x).toNat) := hk
  have HTt : Hid (Hid (IntKind.i64.wrap ((f.stack.length : Int) - takesM p (op : Int) x) = (k : Int))) := hkw
  clear hk hkw
  have HK3 : Hid (∀ W', Below wA.heap.size wA W' → W'.cell? ⟨b, off + low.length * 4 + 3, none⟩ = some (.slice As f.stack.length cs) ∧ W'.cell? ⟨P, 0, none⟩ = some (.slice (some ⟨bp, op0, none⟩) p.length capp) ∧ W'.cell? ⟨Q, 0, none⟩ = some (.int .i64 (op : Int)) ∧ W'.cell? ⟨Q, 1, none⟩ = some (.int .i64 x)) := fun W' h => HK2.out W' (HbA.out.trans (h.mono HbA.out.size))
  obtain ⟨y3, y0, yQ0, yQ1⟩ := HY.out
  have HIst : Hid (IRow B W2 (.slice As f.stack.length cs) f.stack) := by
    obtain ⟨hI, -, -, hV, -⟩ := HM2.out.stkRow (low := low) (f := f) HS.out.frames (by omega)
    rw [hVs] at hI
    exact hI
  have hst : f.stack = f.stack.take k ++ f.stack.drop k := (List.take_append_drop k f.stack).symm
  obtain ⟨st, hst1⟩ : ∃ st, st = f.stack.take k := ⟨_, rfl⟩
  obtain ⟨v, hv1⟩ : ∃ v, v = f.stack.drop k := ⟨_, rfl⟩
  have hkst : k = st.length := by rw [hst1, List.length_take]; omega
  rw [← hst1, ← hv1] at hst
  have Hv1 : Hid (st = f.stack.take k ∧ v = f.stack.drop k) := ⟨hst1, hv1⟩
  have Hst : Hid (f.stack = st ++ v) := hst
  have hl : f.stack.length = st.length + v.length := by rw [hst]; simp
  rw [hst] at HIst
  rw [hl] at y3 hcs HK3 hVs
  have hvl : v.length ≤ 8 := by omega
  have HNums : Hid (∀ A' c', (v = [] ∨ A' = As.map fun q => q.add st.length) → Calls Tryz.prog 104 #[.slice A' v.length c'] wA fun e w' => NumsTold v wA w' e) := fun A' c' h => by
    refine specNums (B := B) _ v wA ?_ (by omega)
    by_cases hv0 : v = []
    · rw [hv0]; exact ⟨_, _, rfl, by simp, fun i h => absurd h (by simp)⟩
    · have hI := HIst.out.below HbA.out
      have : 0 < v.length := List.length_pos_iff.2 hv0
      obtain ⟨b', o', e, -⟩ := hI.at 0 (by rw [List.length_append]; omega)
      subst e
      rw [h.resolve_left hv0]
      have hD := hI.drop (k := c')
      simp only [Option.map_some, Addr.add]
      by_cases hz : st.length = 0
      · rw [hz] at hD; rw [if_pos hz]; exact hD
      · rw [if_neg hz]; exact hD
  rename_i hHeld
  clear hHeld
  clear hst1 hv1 hst hl
  subst hkst
  clear t3 x0 i0 i1 HK2 HY
  have Ht1 : Hid (∀ W', Below wA.heap.size wA W' → W'.cell? ⟨b, off + low.length * 4 + 1, none⟩ = some (.int .i64 j) ∧ W'.frozen? ⟨b, off + low.length * 4 + 1, none⟩ = false ∧ W'.frozen? ⟨b, off + low.length * 4 + 3, none⟩ = false ∧ W'.cell? ⟨b, off + low.length * 4 + 2, none⟩ = some (V (.loc low.length))) := fun W' h => by
    have hb := HbA.out.trans (h.mono HbA.out.size)
    exact ⟨by rw [hb.cell (by exact tl)]; exact t1, by rw [hb.frozen (by exact tl)]; exact f1, by rw [hb.frozen (by exact tl)]; exact f3, by rw [hb.cell (by exact tl)]; exact t2⟩
  have htlA : b < wA.heap.size := Nat.lt_of_lt_of_le tl HbA.out.size
  clear t1 t2 f1 f3
  go_wp2_with fail
  all_goals
    refine Calls.mono (HNums.out _ _ (by first | exact .inr rfl | exact .inl (List.length_eq_zero_iff.1 (by omega)))) ?_
    rintro e wB ⟨v', rfl, hvr, hbB⟩
    have Hh : Hid _ := h
    clear h
    have Hvr : Hid (wB.ownsRow wA.heap.size 2 1 v' v.length (ints v)) := hvr
    have HbB : Hid (Below wA.heap.size wA wB) := hbB
    obtain ⟨z3, z0, zQ0, zQ1⟩ := HK3.out wB hbB
    obtain ⟨z1, g1, g3, z2⟩ := Ht1.out wB hbB
    have HbC : Hid (Below B w wB) := HbW2.out.trans ((HbA.out.trans (hbB.mono HbA.out.size)).mono (by omega))
    have HM5 : Hid (∃ V5 C5, Mac B m 0 noPr own2 ((wB.setCell ⟨b, off + low.length * 4 + 3, none⟩ (.slice As st.length cs)).setCell ⟨b, off + low.length * 4 + 1, none⟩ (.int .i64 ((j : Int) + 1))) V5 C5 ⟨low ++ [⟨f.func, f.pc + 1, f.locals, st⟩], s.heap, s.out, s.fuel - 1, s.done, s.value, s.trap⟩ ∧ V5 .fr = .slice (some ⟨b, off, none⟩) (low.length + 1) cap ∧ Below B w ((wB.setCell ⟨b, off + low.length * 4 + 3, none⟩ (.slice As st.length cs)).setCell ⟨b, off + low.length * 4 + 1, none⟩ (.int .i64 ((j : Int) + 1)))) := by
      have Mb := HM2.out.below (HbA.out.trans (hbB.mono HbA.out.size))
      obtain ⟨V4, C4, M4, b4⟩ := Mb.cutTop (low := low) (f := f) HS.out.frames Hst.out (by rw [Hst.out, List.length_append]; exact hVs) hVf
      obtain ⟨b', off', cap', T⟩ := M4.top (low := low) (f := ⟨f.func, f.pc, f.locals, st⟩) rfl
      have e4 := T.slice
      have e5 : (wB.setCell ⟨b, off + low.length * 4 + 3, none⟩ (.slice As st.length cs)).cell? ⟨m, 0, none⟩ = wB.cell? ⟨m, 0, none⟩ := World.cell?_setCell_other _ _ _ _ (by intro e; simp only [Addr.mk.injEq] at e; exact tne e.1)
      have e6 := M4.zcell.1
      rw [e5, Mb.zcell.1, hVf] at e6
      have e7 : V4 .fr = .slice (some ⟨b, off, none⟩) (low.length + 1) cap := by simpa using e6.symm
      obtain ⟨C5, M5, b5⟩ := M4.pcTop (low := low) (f := ⟨f.func, f.pc, f.locals, st⟩) rfl ((j : Int) + 1) e7
      rw [hpc]
      exact ⟨V4, C5, M5, e7, HbC.out.trans (b4.trans b5)⟩
    have HE := HS.out.top
    obtain ⟨V5, C5, M5, hf5, b5⟩ := HM5.out
    have hIB : IRow wA.heap.size wB v' v := IRow.of_owns hvr (by omega)
    have hIv : IRow wA.heap.size ((wB.setCell ⟨b, off + low.length * 4 + 3, none⟩ (.slice As st.length cs)).setCell ⟨b, off + low.length * 4 + 1, none⟩ (.int .i64 ((j : Int) + 1))) v' v := (hIB.set (by exact htlA) _).set (by exact htlA) _
    have hmA : m < wA.heap.size := Nat.lt_of_lt_of_le hm HbA.out.size
    have hset : ∀ a, a ≠ b → ∀ q, ((wB.setCell ⟨b, off + low.length * 4 + 3, none⟩ (.slice As st.length cs)).setCell ⟨b, off + low.length * 4 + 1, none⟩ (.int .i64 ((j : Int) + 1))).cell? ⟨a, q, none⟩ = wB.cell? ⟨a, q, none⟩ := fun a ha q => by
      rw [World.cell?_setCell_other _ _ _ _ (by intro e; simp only [Addr.mk.injEq] at e; omega), World.cell?_setCell_other _ _ _ _ (by intro e; simp only [Addr.mk.injEq] at e; omega)]
    have hbP : P ≠ b := fun e => by
      obtain ⟨b', off', n', cap', e', _, _, _, _, _, _, h8⟩ := M5.l.at (t := .fr) trivial (k := 0) (by rw [M5.k.frames_len]; simp)
      rw [hf5] at e'
      simp only [Value.slice.injEq, Option.some.injEq, Addr.mk.injEq, and_true] at e'
      obtain ⟨⟨rfl, rfl⟩, _⟩ := e'
      rw [← e, hno2] at h8
      cases h8
    have hzB : W2.heap.size ≤ wB.heap.size := Nat.le_trans HbA.out.size hbB.size
    have HSw : Hid (Sw p s low f i j hs op x st v B m b off cap bp op0 capp P Q v' w ((wB.setCell ⟨b, off + low.length * 4 + 3, none⟩ (.slice As st.length cs)).setCell ⟨b, off + low.length * 4 + 1, none⟩ (.int .i64 ((j : Int) + 1)))) :=
      ⟨HS.out, hop, Hv1.out.1, Hv1.out.2, Hk.out, by have h := hc2; rw [← Hv1.out.2] at h; exact h, ⟨own2, V5, C5, M5, hf5, hno3⟩, b5,
        by rw [hset Q hbQ.symm]; exact zQ0, by rw [hset Q hbQ.symm]; exact zQ1, by rw [hset P hbP]; exact z0,
        Nat.lt_of_lt_of_le iz (by simpa using hzB), hQm, hQ, fun q hq => by
          rw [World.frozen?_setCell, World.frozen?_setCell, hbB.frozen (by show Q < wA.heap.size; exact Nat.lt_of_lt_of_le iz HbA.out.size), HbA.out.frozen (by exact iz)]; exact izf q hq,
        Nat.lt_of_lt_of_le xz (by simpa using hzB), hIv.lower (Nat.zero_le _), fun b0 o0 n c e hne => by
          have hv0 : 0 < v.length := List.length_pos_iff.2 hne
          rw [e] at hIB
          obtain ⟨b', o', e', h1, _⟩ := hIB.at 0 hv0
          simp only [Option.some.injEq, Addr.mk.injEq, and_true] at e'
          obtain ⟨rfl, rfl⟩ := e'
          exact ⟨by omega, by omega⟩,
        HP.out⟩
    clear hIB hIv hset hbP hzB M5 hf5 b5 hmA
    clear hvr hbB y3 y0 yQ0 yQ1 Ht1 HK3
    go_upto_block 0 with fail
    exact tailAll HSw.out _ _ _ _ _ _ _ _ _ _ _ _ _ _ _ _ _ _ _ _ _ _ _ _ _ _ _ _ _ _ _ _ _ _ _ _ _ _ _ _ _ _ _ _ _ _ _ _ _ _ _ _ _ _ _ _ _ _ _ _ _ _ _ _ _ _ _ _ _ _ _ _ _ _ _ _ _ _ _ _ _ _ _ _ _ _ _ _ _ _ _ _ _ _ _ _ _ _ _ _ _ _ _ _ _ _ _ _ _ _ _ _ _ _ _ _ _ _ _ _ _ _ _ _ _ _ _ _ _ _ _ _ _ _ _ _ _ _ _ _ _ _ _ _ _ _ _ _ _ _ _ _ _ _ _ _ _ _ _ _ _ _ _ _ _ _ _ _ _ _ _ _ _ _ _ _ _ _ _ _ _ _ _ _ _ _ _ _ _ _ _ _ _ _ _ _ _ _ _ _ _ _ _ _ _ _ _ _ _ _ _ _ _ _ _ _ _ _ _ _ _ _ _ _ _ _ _ _ _ _ _ _ _ _ _ _ _ _ _ _ _ _ _ _ _ _ _ _ _ _ _ _ _ _ _ _ _ _ _ _ _ _ _ _ _ _ _ _ _ _ _ _ _
end Go.Proofs.YtnknnncehcofnaaGreatDoor
