/- The machine's last, take, put. -/
import Derived.Test.YtnknnncehcofnaaGreatDoorMac
namespace Go.Proofs.YtnknnncehcofnaaGreatDoor
open Go.RowKit

/-- the program's machine at block m -/
def MacI (B m : Nat) (vp : PV) (w : World) (s : StM) : Prop := ∃ own V C, Mac B m 1 (prOf vp) own w V C s

theorem Mac.mcell {B m : Nat} {pr : Pr} {own : Nat → Nat → Tag} {w : World} {V : Tag → Value} {C : Tag → List Value} {s : StM} (M : Mac B m 1 pr own w V C s) :
    w.cell? ⟨m, 1, none⟩ = some (V .fr) ∧ w.cell? ⟨m, 2, none⟩ = some (V .hp) ∧ w.cell? ⟨m, 3, none⟩ = some (V .out) ∧ w.cell? ⟨m, 4, none⟩ = some (.int .i64 s.fuel) ∧ w.cell? ⟨m, 5, none⟩ = some (.bool s.done) ∧ w.cell? ⟨m, 6, none⟩ = some (.int .i64 s.value) ∧ w.cell? ⟨m, 7, none⟩ = some (.int .i64 s.trap) :=
  ⟨(M.cs 0 (by omega)).1, (M.cs 1 (by omega)).1, (M.cs 2 (by omega)).1, (M.cs 3 (by omega)).1, (M.cs 4 (by omega)).1, (M.cs 5 (by omega)).1, (M.cs 6 (by omega)).1⟩

theorem implLast (m b off n cap : Nat) (w : World) (c1 : w.cell? ⟨m, 1, none⟩ = some (.slice (some ⟨b, off, none⟩) (n + 1) cap)) (hn : n ≤ 1048576) :
    Calls Tryz.prog 77 #[.pointer (some ⟨m, 0, none⟩)] w fun e w' => e = .returned (.pointer (some ⟨b, off + n * 4, none⟩)) ∧ ∃ q, w' = w.drewN q := by
  have hw1 : IntKind.i64.wrap (((n + 1 : Nat) : Int) - 1) = (n : Int) := by rw [IntKind.wrap_i64]; omega
  have hw2 : IntKind.i64.wrap ((n : Int) + 1 - 1) = (n : Int) := by rw [IntKind.wrap_i64]; omega
  have hw3 : IntKind.i64.wrap (n : Int) = (n : Int) := by rw [IntKind.wrap_i64]; omega
  go_enter Tryz.func77, Tryz.ntmps77
  go_wp2_with fail
  go_quiet (fail)
  go_wp2_with fail
  go_ret
  exact ⟨rfl, _, rfl⟩

/-- blocks that are there no more than now are of no list -/
theorem Mac.cutOwn {B m d : Nat} {pr : Pr} {own : Nat → Nat → Tag} {w : World} {V : Tag → Value} {C : Tag → List Value} {s : StM} (M : Mac B m d pr own w V C s) : Mac B m d pr (cutOwn w.heap.size own) w V C s :=
  ⟨⟨M.l.row, fun t ht => (M.l.room t ht).cut⟩, M.k, fun j => by show (if m < w.heap.size then _ else _) = _; rw [if_pos M.lt]; exact M.free j, M.base, M.lt, M.cs, M.pre.keep (Nat.le_refl _) (fun _ _ => rfl) (.inr rfl) (fun b h1 _ h3 => ⟨fun i => by show (if b < w.heap.size then own b i else .no) = _; rw [if_pos h3]; exact h1 i, fun _ => ⟨rfl, rfl⟩⟩)⟩

/-- no cell of what is no list's changes -/
def Spare (own : Nat → Nat → Tag) (w w' : World) : Prop := ∀ b j, own b j = .no → b < w.heap.size → w'.cell? ⟨b, j, none⟩ = w.cell? ⟨b, j, none⟩

def TakeTold (B m : Nat) (vp : PV) (own : Nat → Nat → Tag) (s' : StM) (l : List Int) (w w' : World) (e : Ending) : Prop := ∃ At V2 C2, e = .returned (.slice At l.length l.length) ∧ Mac B m 1 (prOf vp) own w' V2 C2 s' ∧ IRow B w' (.slice At l.length l.length) l ∧ Below B w w' ∧ Spare own w w' ∧ w'.heap.size = w.heap.size

/-- the machine behind a cut of its last frame's stack -/
theorem Mac.cutTop {B m d : Nat} {pr : Pr} {own : Nat → Nat → Tag} {w : World} {V : Tag → Value} {C : Tag → List Value} {s : StM} (M : Mac B m d pr own w V C s) {low : List FrM} {f : FrM} {st l : List Int} (hs : s.frames = low ++ [f]) (hst : f.stack = st ++ l) {A : Option Addr} {c : Nat} (hv : V (.stk low.length) = .slice A f.stack.length c) {b off n cap : Nat} (hf : V .fr = .slice (some ⟨b, off, none⟩) n cap) :
    ∃ V2 C2, Mac B m d pr own (w.setCell ⟨b, off + low.length * 4 + 3, none⟩ (.slice A st.length c)) V2 C2 { s with frames := low ++ [⟨f.func, f.pc, f.locals, st⟩] } ∧ Below B w (w.setCell ⟨b, off + low.length * 4 + 3, none⟩ (.slice A st.length c)) := by
  have hi : low.length < s.frames.length := by rw [hs]; simp
  have hg : s.frames[low.length] = f := by simp [hs]
  obtain ⟨C2, h⟩ := M.cutStk low.length hi st.length hv (by rw [hst]; simp) hf
  rw [hg, hst, List.take_left' rfl, hs, set_top] at h
  exact ⟨_, C2, h⟩

theorem IRow.drop {B : Nat} {w : World} {b off c k : Nat} {st l : List Int} (h : IRow B w (.slice (some ⟨b, off, none⟩) (st ++ l).length c) (st ++ l)) : IRow B w (.slice (some ⟨b, off + st.length, none⟩) l.length k) l := by
  have hn := h.len
  rw [List.length_append] at hn
  refine ⟨_, k, rfl, by omega, fun i hi => ?_⟩
  obtain ⟨b', off', e, h1, h2, h3⟩ := h.at (st.length + i) (by rw [List.length_append]; omega)
  simp only [Option.some.injEq, Addr.mk.injEq, and_true] at e
  obtain ⟨rfl, rfl⟩ := e
  refine ⟨b, off + st.length, rfl, h1, h2, ?_⟩
  rw [Nat.add_assoc, h3, List.getElem_append_right (by omega)]
  simp

set_option maxRecDepth 100000 in
set_option maxHeartbeats 1600000 in
theorem implTake (B m : Nat) (vp : PV) (own : Nat → Nat → Tag) (V : Tag → Value) (C : Tag → List Value) (s : StM) (low : List FrM) (f : FrM) (st l : List Int) (w : World) (M : Mac B m 1 (prOf vp) own w V C s) (hs : s.frames = low ++ [f]) (hst : f.stack = st ++ l) (hk : f.stack.length ≤ 1048576) (hl : low.length ≤ 1048576) :
    Calls Tryz.prog 181 #[.pointer (some ⟨m, 0, none⟩), .int .i64 l.length] w fun e w' => TakeTold B m vp own { s with frames := low ++ [⟨f.func, f.pc, f.locals, st⟩] } l w w' e := by
  obtain ⟨b, off, cap, T⟩ := M.top hs
  obtain ⟨hrow, A, c, hv, hlc⟩ := M.stkRow hs hk
  have c1 := M.mcell.1
  rw [T.slice] at c1
  have hlast := implLast m b off low.length cap w c1 hl
  have Hlast : Hid (Calls Tryz.prog 77 #[.pointer (some ⟨m, 0, none⟩)] w fun e w' => e = .returned (.pointer (some ⟨b, off + low.length * 4, none⟩)) ∧ ∃ q, w' = w.drewN q) := hlast
  have t3 := T.c3
  rw [hv] at t3
  have f3 := T.f3
  have tl := T.lt
  have HD : Hid (∀ q : Nat, Below w.heap.size w (w.drewN q)) := fun q => below_drewN (Below.refl _ _) q
  have HC : Hid (∀ q : Nat, ∃ V2 C2, Mac B m 1 (prOf vp) own ((w.drewN q).setCell ⟨b, off + low.length * 4 + 3, none⟩ (.slice A st.length c)) V2 C2 { s with frames := low ++ [⟨f.func, f.pc, f.locals, st⟩] } ∧ Below B (w.drewN q) ((w.drewN q).setCell ⟨b, off + low.length * 4 + 3, none⟩ (.slice A st.length c))) := fun q => (M.below (HD.out q)).cutTop hs hst hv T.slice
  have hlen : f.stack.length = st.length + l.length := by rw [hst]; simp
  rw [hlen] at t3 hlc hk
  have Hrow : Hid (IRow B w (.slice A (st ++ l).length c) (st ++ l)) := by show IRow _ _ _ _; rw [← hst, ← hv]; exact hrow
  have Hb : Hid (∀ q : Nat, Below B w (w.drewN q)) := fun q => below_drewN (Below.refl _ _) q
  have HSp : Hid (∀ q : Nat, Spare own w ((w.drewN q).setCell ⟨b, off + low.length * 4 + 3, none⟩ (.slice A st.length c))) := fun q b' j ho hlt => by
    obtain ⟨b3, off3, n3, cap3, e3, _, _, _, _, _, _, g6⟩ := M.l.at (t := .fr) trivial (k := low.length * 4 + 3) (by have := M.k.frames_len; rw [hs] at this; simp at this; omega)
    rw [T.slice] at e3
    simp only [Value.slice.injEq, Option.some.injEq, Addr.mk.injEq, and_true] at e3
    obtain ⟨⟨rfl, rfl⟩, _⟩ := e3
    refine World.cell?_setCell_other _ _ _ _ ?_
    intro e
    simp only [Addr.mk.injEq, and_true] at e
    obtain ⟨rfl, rfl⟩ := e
    rw [← Nat.add_assoc, ho] at g6
    cases g6
  have Hst : Hid (∀ q : Nat, ∀ (bs os : Nat), A = some ⟨bs, os, none⟩ → 0 < l.length → IRow B ((w.drewN q).setCell ⟨b, off + low.length * 4 + 3, none⟩ (.slice A st.length c)) (.slice (some ⟨bs, os + st.length, none⟩) l.length l.length) l) := fun q bs os hA hl0 => by
    subst hA
    have hr := M.l.room (.stk low.length) (by show low.length < _; rw [hs]; simp)
    have ho := M.l.room .fr trivial
    obtain ⟨A2, n2, cap2, he2, _, ho⟩ := ho
    rw [T.slice] at he2
    simp only [Value.slice.injEq] at he2
    obtain ⟨rfl, rfl, rfl⟩ := he2
    have h1 : Wrote B (fun b' j => own b' j = .fr) (w.drewN q) ((w.drewN q).setCell ⟨b, off + low.length * 4 + 3, none⟩ (.slice (some ⟨bs, os, none⟩) st.length c)) := by
      obtain ⟨b3, off3, e3, g1, _, _, _, g6⟩ := ho (low.length * 4 + 3) (by have := (M.l.row .fr trivial).len T.slice; simp only [szT] at this ⊢; omega)
      simp only [Option.some.injEq, Addr.mk.injEq, and_true] at e3
      obtain ⟨rfl, rfl⟩ := e3
      exact Wrote.set _ _ _ _ (by rw [Nat.add_assoc]; exact g6) g1
    have h2 : IRow B ((w.drewN q).setCell ⟨b, off + low.length * 4 + 3, none⟩ (.slice (some ⟨bs, os, none⟩) st.length c)) (V (.stk low.length)) f.stack := (hrow.below (HD.out q)).wrote (hr.below (HD.out q)) h1 (fun b' j hs => by rw [hs]; simp)
    rw [hv, hst] at h2
    exact h2.drop
  clear hlast hlen hrow hv hs hst M T
  obtain ⟨j, hj⟩ : ∃ j, j = st.length := ⟨_, rfl⟩
  obtain ⟨k, hkk⟩ : ∃ k, k = l.length := ⟨_, rfl⟩
  rw [← hj, ← hkk] at t3 hk hlc
  rw [← hj] at HC HSp
  rw [← hkk]
  have Hj : Hid (j = st.length) := hj
  have Hk : Hid (k = l.length) := hkk
  clear hj hkk
  have hw1 : wrap64 (j : Int) = j := by unfold wrap64; omega
  have hw2 : wrap64 ((j : Int) + k - k) = j := by unfold wrap64; omega
  by_cases hk0 : k = 0
  · subst hk0
    go_enter Tryz.func181, Tryz.ntmps181
    go_wp2_with fail
    refine Hlast.out.mono ?_
    rintro e w1 ⟨rfl, q, hq⟩
    subst hq
    go_wp2_with fail
    go_ret
    have hl0 : l = [] := List.eq_nil_of_length_eq_zero Hk.out.symm
    subst hl0
    obtain ⟨V2, C2, M2, hb2⟩ := HC.out q
    exact ⟨A, V2, C2, rfl, M2, ⟨A, 0, rfl, by simp, fun i hi => absurd hi (by simp)⟩, (Hb.out q).trans hb2, HSp.out q, by simp⟩
  · obtain ⟨bs, os, rfl, -⟩ := Hrow.out.at st.length (by have := Hk.out; rw [List.length_append]; omega)
    have ek : j + k - j = k := by omega
    go_enter Tryz.func181, Tryz.ntmps181
    go_wp2_with fail
    refine Hlast.out.mono ?_
    rintro e w1 ⟨rfl, q, hq⟩
    subst hq
    go_wp2_with fail
    go_ret
    obtain ⟨V2, C2, M2, hb2⟩ := HC.out q
    have hr := Hst.out q bs os rfl (by have := Hk.out; omega)
    have hjj := Hj.out
    have hkk := Hk.out
    subst hjj hkk
    exact ⟨some ⟨bs, os + st.length, none⟩, V2, C2, by simp, M2, hr, (Hb.out q).trans hb2, HSp.out q, by simp⟩

/-- what lies behind a number that is put -/
theorem Mac.putTop {B m d : Nat} {pr : Pr} {own : Nat → Nat → Tag} {w : World} {V : Tag → Value} {C : Tag → List Value} {s : StM} (M : Mac B m d pr own w V C s) {low : List FrM} {f : FrM} (hs : s.frames = low ++ [f]) (hk : f.stack.length ≤ 1048576) (l : List Int) (hl0 : 0 < l.length) (hl1 : l.length ≤ 1048576) (ad : Addr) (cx : Nat) (ty : TypeId) (hx : ∀ j (h : j < l.length), w.cell? (ad.add j) = some (.int .i64 l[j])) {b off n cap : Nat} (hf : V .fr = .slice (some ⟨b, off, none⟩) n cap) :
    ∃ b1 off1 cap1 w1, (Builtin.append_ #[28, 28] ty #[V (.stk low.length), .slice (some ad) l.length cx]).run Tryz.prog w = .ok (.slice (some ⟨b1, off1, none⟩) (f.stack.length + l.length) cap1) w1 ∧
      (w1.cell? ⟨b, off + low.length * 4 + 3, none⟩ = w.cell? ⟨b, off + low.length * 4 + 3, none⟩ ∧ w1.frozen? ⟨b, off + low.length * 4 + 3, none⟩ = w.frozen? ⟨b, off + low.length * 4 + 3, none⟩) ∧ Below B w w1 ∧
      ∃ own2 V2 C2, Mac B m d pr own2 (w1.setCell ⟨b, off + low.length * 4 + 3, none⟩ (.slice (some ⟨b1, off1, none⟩) (f.stack.length + l.length) cap1)) V2 C2 { s with frames := low ++ [⟨f.func, f.pc, f.locals, f.stack ++ l⟩] } ∧
        Below B w (w1.setCell ⟨b, off + low.length * 4 + 3, none⟩ (.slice (some ⟨b1, off1, none⟩) (f.stack.length + l.length) cap1)) ∧ Spare own w (w1.setCell ⟨b, off + low.length * 4 + 3, none⟩ (.slice (some ⟨b1, off1, none⟩) (f.stack.length + l.length) cap1)) := by
  have hi : low.length < s.frames.length := by rw [hs]; simp
  have hg : s.frames[low.length] = f := by simp [hs]
  obtain ⟨_, A, c, hv, _⟩ := M.stkRow hs hk
  obtain ⟨i0, hii, hz0, hz1, hz2⟩ := info_parts Tryz.info64
  have hsrc : Src Tryz.prog i0.size 28 (.slice (some ad) l.length cx) l.length (ints l) w := by
    rw [hz1]
    refine Src.ofSlice w Tryz.underlying28 ad l.length cx (ints l) (by rw [ints_length, Nat.mul_one]) (fun j u hj => ?_) (fun u hu => ?_)
    · obtain ⟨h1, h2⟩ := List.getElem?_eq_some_iff.1 hj
      rw [ints_length] at h1
      rw [hx j h1, ← h2]
      simp [ints]
    · obtain ⟨z, _, rfl⟩ := List.mem_map.1 hu
      rfl
  obtain ⟨b1, off1, cap1, w1, own1, hrun, O, D, _⟩ := M.l.append (Nat.le_of_lt (Nat.lt_of_le_of_lt M.base M.lt)) (t := .stk low.length) hi 28 2 ty 28 i0 (.int .i64 0) Tryz.underlying28 hii hz0 (by rw [hz1]; rfl) rfl (by rw [hz2]; omega) hv (.slice (some ad) l.length cx) l.length (ints l) hsrc hl0 (by omega)
  obtain ⟨C2, M2, hb2⟩ := M.putStk low.length hi l _ D O hf
  rw [hg, hs, set_top] at M2
  obtain ⟨b', off', n', cap', hv', _, _, _, hlt, _, _, ho⟩ := M.l.at (t := .fr) trivial (k := low.length * 4 + 3) (by have := M.k.frames_len; rw [hs] at this; simp at this; omega)
  rw [hf] at hv'
  simp only [Value.slice.injEq, Option.some.injEq, Addr.mk.injEq, and_true] at hv'
  obtain ⟨⟨rfl, rfl⟩, _⟩ := hv'
  have hc := D.cell b (off + (low.length * 4 + 3)) hlt (by rw [ho]; simp)
  rw [← Nat.add_assoc] at hc ho
  refine ⟨b1, off1, cap1, w1, hrun, hc, D.below, own1, _, C2, M2, hb2, fun b2 j h0 hl2 => ?_⟩
  rw [World.cell?_setCell_other _ _ _ _ (by
    intro e
    simp only [Addr.mk.injEq, and_true] at e
    obtain ⟨rfl, rfl⟩ := e
    rw [h0] at ho
    cases ho)]
  exact (D.cell b2 j hl2 (by rw [h0]; simp)).1

/-- an append whose run is known -/
theorem wpList_append_run {w : World} {ops : Array Oper} {rest : List Oper} {o : Oper} {a : Act} {Q : Exit → Act → World → Prop} (hgd : o.guard = none) (sl x : Operand) (T : TypeId)
    (ho : o.op = .call { callee := .builtin .append, args := #[sl, x], argTypes := #[T, T] }) (v y : Value) (hs : a.eval sl = v) (hx : a.eval x = y) (v' : Value) (w' : World) (hr : (Builtin.append_ #[T, T] o.type #[v, y]).run Tryz.prog w = .ok v' w')
    (h : wpList Tryz.prog ops Q rest (a.put o.dst v') w') : wpList Tryz.prog ops Q (o :: rest) a w := by
  refine wpList_plain hgd fun K hK => ?_
  unfold Oper.wp execOp
  simp only [ho, resolve, invoke, builtin, Sem.run_bind, Sem.run_pure, Result.andThen_ok, List.map_toArray, List.map_cons, List.map_nil, hs, hx, hr]
  exact hK _ _ h

def MacTold (B m : Nat) (vp : PV) (s' : StM) (v : Value) (w w' : World) (e : Ending) : Prop := e = .returned v ∧ MacI B m vp w' s' ∧ Below B w w'

set_option maxRecDepth 100000 in
set_option maxHeartbeats 1600000 in
theorem implPutS (B m : Nat) (vp : PV) (own : Nat → Nat → Tag) (V : Tag → Value) (C : Tag → List Value) (s : StM) (low : List FrM) (f : FrM) (x : Int) (w : World) (M : Mac B m 1 (prOf vp) own w V C s) (hs : s.frames = low ++ [f]) (hk : f.stack.length ≤ 1048576) (hl : low.length ≤ 1048576) :
    Calls Tryz.prog 180 #[.pointer (some ⟨m, 0, none⟩), .int .i64 x] w fun e w' => MacTold B m vp { s with frames := low ++ [⟨f.func, f.pc, f.locals, f.stack ++ [x]⟩] } (.tuple #[]) w w' e ∧ Spare own w w' := by
  obtain ⟨b, off, cap, T⟩ := M.top hs
  obtain ⟨hrow, A, c, hv, hlc⟩ := M.stkRow hs hk
  have c1 := M.mcell.1
  rw [T.slice] at c1
  have hlast := implLast m b off low.length cap w c1 hl
  have Hlast : Hid (Calls Tryz.prog 77 #[.pointer (some ⟨m, 0, none⟩)] w fun e w' => e = .returned (.pointer (some ⟨b, off + low.length * 4, none⟩)) ∧ ∃ q, w' = w.drewN q) := hlast
  have t3 := T.c3
  rw [hv] at t3
  have f3 := T.f3
  have tl := T.lt
  have HP : Hid (∀ q : Nat, ∃ b1 off1 cap1 w1, (Builtin.append_ #[28, 28] 28 #[.slice A f.stack.length c, .slice (some ⟨w.heap.size, 0, none⟩) 1 1]).run Tryz.prog ((w.drewN q).alloc (.cells #[.int .i64 x] 2)) = .ok (.slice (some ⟨b1, off1, none⟩) (f.stack.length + 1) cap1) w1 ∧
      (w1.cell? ⟨b, off + low.length * 4 + 3, none⟩ = some (.slice A f.stack.length c) ∧ w1.frozen? ⟨b, off + low.length * 4 + 3, none⟩ = false) ∧ b < w1.heap.size ∧ MacI B m vp (w1.setCell ⟨b, off + low.length * 4 + 3, none⟩ (.slice (some ⟨b1, off1, none⟩) (f.stack.length + 1) cap1)) { s with frames := low ++ [⟨f.func, f.pc, f.locals, f.stack ++ [x]⟩] } ∧ (Below B w (w1.setCell ⟨b, off + low.length * 4 + 3, none⟩ (.slice (some ⟨b1, off1, none⟩) (f.stack.length + 1) cap1)) ∧ Spare own w (w1.setCell ⟨b, off + low.length * 4 + 3, none⟩ (.slice (some ⟨b1, off1, none⟩) (f.stack.length + 1) cap1)))) := fun q => by
    have hb1 : Below w.heap.size w ((w.drewN q).alloc (.cells #[.int .i64 x] 2)) := (below_drewN (Below.refl _ _) q).alloc (Nat.le_refl _) _
    obtain ⟨b1, off1, cap1, w1, h1, h2, h3, own2, V2, C2, M2, h4, h5⟩ := (M.below hb1).putTop hs hk [x] (by simp) (by simp) ⟨(w.drewN q).heap.size, 0, none⟩ 1 28 (fun j hj => by
      have hj0 : j = 0 := by simpa using hj
      subst hj0
      exact (box_new (w.drewN q) #[.int .i64 x] 2).at0) T.slice
    rw [hv] at h1
    have hB : B ≤ w.heap.size := Nat.le_of_lt (Nat.lt_of_le_of_lt M.base M.lt)
    refine ⟨b1, off1, cap1, w1, h1, ⟨by rw [h2.1, hb1.cell (by exact T.lt)]; exact t3, by rw [h2.2, hb1.frozen (by exact T.lt)]; exact f3⟩, Nat.lt_of_lt_of_le T.lt (Nat.le_trans hb1.size h3.size), ⟨own2, V2, C2, M2⟩, (hb1.mono hB).trans h4, fun b2 j h0 hl2 => (h5 b2 j h0 (Nat.lt_of_lt_of_le hl2 hb1.size)).trans (hb1.cell (by exact hl2))⟩
  clear hlast hrow hv hs M T
  obtain ⟨k, hkk⟩ : ∃ k, k = f.stack.length := ⟨_, rfl⟩
  rw [← hkk] at t3 hk hlc HP
  clear hkk
  go_enter Tryz.func180, Tryz.ntmps180
  go_wp2_with fail
  refine Hlast.out.mono ?_
  rintro e w1 ⟨rfl, q, hq⟩
  subst hq
  obtain ⟨b1, off1, cap1, w2, hrun, ⟨d0, d1⟩, d2, hMac, hbel⟩ := HP.out q
  have HMac : Hid (MacI B m vp (w2.setCell ⟨b, off + low.length * 4 + 3, none⟩ (.slice (some ⟨b1, off1, none⟩) (k + 1) cap1)) { s with frames := low ++ [⟨f.func, f.pc, f.locals, f.stack ++ [x]⟩] } ∧ (Below B w (w2.setCell ⟨b, off + low.length * 4 + 3, none⟩ (.slice (some ⟨b1, off1, none⟩) (k + 1) cap1)) ∧ Spare own w (w2.setCell ⟨b, off + low.length * 4 + 3, none⟩ (.slice (some ⟨b1, off1, none⟩) (k + 1) cap1)))) := ⟨hMac, hbel⟩
  clear hMac hbel
  go_wp2_with (at_builtin; refine wpList_append_run rfl _ _ 28 rfl _ _ rfl rfl _ _ hrun ?_)
  go_wp2_with fail
  go_end0
  exact ⟨⟨rfl, HMac.out.1, HMac.out.2.1⟩, HMac.out.2.2⟩

theorem implPutN (B m : Nat) (vp : PV) (s : StM) (low : List FrM) (f : FrM) (x : Int) (w : World) (hM : MacI B m vp w s) (hs : s.frames = low ++ [f]) (hk : f.stack.length ≤ 1048576) (hl : low.length ≤ 1048576) :
    Calls Tryz.prog 180 #[.pointer (some ⟨m, 0, none⟩), .int .i64 x] w fun e w' => MacTold B m vp { s with frames := low ++ [⟨f.func, f.pc, f.locals, f.stack ++ [x]⟩] } (.tuple #[]) w w' e := by
  obtain ⟨own, V, C, M⟩ := hM
  exact (implPutS B m vp own V C s low f x w M hs hk hl).mono fun e w' h => h.1
end Go.Proofs.YtnknnncehcofnaaGreatDoor
