/- Doings: putOut, giveBack; the end of a state; putValue, unary, binary. Doings: putValue, unary, binary, giveBack. A state's arrays: array, cell, getNumber, setNumber, arrayLength. Doings of arrays: get, set, length. -/
import Derived.Test.YtnknnncehcofnaaGreatDoorJ22MacO
import Derived.Test.YtnknnncehcofnaaGreatDoorJ3Un
import Derived.Deep.RegionLaw
import Derived.Test.YtnknnncehcofnaaGreatDoorJ1OpTab
import Derived.Test.YtnknnncehcofnaaGreatDoorJ4StepP
namespace Go.Proofs.YtnknnncehcofnaaGreatDoor
open Go.RowKit

def endedM (s : StM) (v t : Int) : StM := ⟨[], s.heap, s.out, s.fuel, true, v, t⟩

set_option maxHeartbeats 1600000 in
theorem implEnd (B m : Nat) (vp : PV) (s : StM) (v t : Int) (w : World) (hM : MacI B m vp w s) :
    Calls Tryz.prog 121 #[.pointer (some ⟨m, 1, none⟩), .int .i64 v, .int .i64 t] w fun e w' => MacTold B m vp (endedM s v t) (.tuple #[]) w w' e := by
  obtain ⟨own, V, C, M⟩ := hM
  obtain ⟨M1, b1⟩ := M.noFrames rfl none
  obtain ⟨M2, b2⟩ := M1.field (s' := ⟨[], s.heap, s.out, s.fuel, true, s.value, s.trap⟩) 4 (by omega) (.bool true) rfl rfl rfl rfl
  obtain ⟨M3, b3⟩ := M2.field (s' := ⟨[], s.heap, s.out, s.fuel, true, v, s.trap⟩) 5 (by omega) (.int .i64 v) rfl rfl rfl rfl
  obtain ⟨M4, b4⟩ := M3.field (s' := ⟨[], s.heap, s.out, s.fuel, true, v, t⟩) 6 (by omega) (.int .i64 t) rfl rfl rfl rfl
  have H4 : Hid (MacI B m vp ((((w.setCell ⟨m, 1, none⟩ (.slice none 0 0)).setCell ⟨m, 5, none⟩ (.bool true)).setCell ⟨m, 6, none⟩ (.int .i64 v)).setCell ⟨m, 7, none⟩ (.int .i64 t)) (endedM s v t) ∧ Below B w ((((w.setCell ⟨m, 1, none⟩ (.slice none 0 0)).setCell ⟨m, 5, none⟩ (.bool true)).setCell ⟨m, 6, none⟩ (.int .i64 v)).setCell ⟨m, 7, none⟩ (.int .i64 t))) := ⟨⟨_, _, _, M4⟩, ((b1.trans b2).trans b3).trans b4⟩
  obtain ⟨c1, -, -, -, c5, c6, c7⟩ := M.mcell
  have f1 := (M.cs 0 (by omega)).2
  have f5 := (M.cs 4 (by omega)).2
  have f6 := (M.cs 5 (by omega)).2
  have f7 := (M.cs 6 (by omega)).2
  have hm := M.lt
  clear M M1 M2 M3 M4 b1 b2 b3 b4
  go_enter Tryz.func121, Tryz.ntmps121
  go_wp2_with fail
  go_end0
  exact ⟨rfl, H4.out.1, H4.out.2⟩

/-- an append in a region that draws its order, whose run is known -/
theorem step_append_run {w : World} {ops : Array Oper} {o : Oper} {a : Act} {K : Act → World → Prop} {Q : Exit → Act → World → Prop} {E : Prop} (hgd : o.guard = none) (sl x : Operand) (T : TypeId)
    (ho : o.op = .call { callee := .builtin .append, args := #[sl, x], argTypes := #[T, T] }) (v y : Value) (hs : a.eval sl = v) (hx : a.eval x = y) (v' : Value) (w' : World) (hr : (Builtin.append_ #[T, T] o.type #[v, y]).run Tryz.prog w = .ok v' w')
    (h : K (a.put o.dst v') w') : if Region.wanted o (yielded ops a.tmps) = true then Oper.wp Tryz.prog o a w K Q else E := by
  have hw : Region.wanted o (yielded ops a.tmps) = true := by simp [Region.wanted, hgd]
  rw [if_pos hw]
  unfold Oper.wp execOp
  simp only [ho, resolve, invoke, builtin, Sem.run_bind, Sem.run_pure, Result.andThen_ok, List.map_toArray, List.map_cons, List.map_nil, hs, hx, hr]
  exact h

theorem Mac.outForm {B m d : Nat} {pr : Pr} {own : Nat → Nat → Tag} {w : World} {V : Tag → Value} {C : Tag → List Value} {s : StM} (M : Mac B m d pr own w V C s) : ∃ A c, V .out = .slice A s.out.length c := by
  have h := M.l.row .out trivial
  rw [M.k.out] at h
  obtain ⟨A, n, c, hv⟩ := h.form
  have hl := h.len hv
  rw [ints_length] at hl
  simp only [szT, Nat.mul_one] at hl
  obtain ⟨rfl, _⟩ := hl
  exact ⟨A, c, hv⟩

/-- an append to what is told -/
theorem Mac.outRun {B m d : Nat} {pr : Pr} {own : Nat → Nat → Tag} {w : World} {V : Tag → Value} {C : Tag → List Value} {s : StM} (M : Mac B m d pr own w V C s) (hk : s.out.length ≤ 1048576) (x : Int) (ad : Addr) (cx : Nat) (ty : TypeId) (hx : w.cell? ad = some (.int .i64 x)) :
    ∃ A c, V .out = .slice A s.out.length c ∧ ∃ b1 off1 cap1 w1, (Builtin.append_ #[28, 28] ty #[.slice A s.out.length c, .slice (some ad) 1 cx]).run Tryz.prog w = .ok (.slice (some ⟨b1, off1, none⟩) (s.out.length + 1) cap1) w1 ∧
      ((∃ u, w1.cell? ⟨m, d + 2, none⟩ = some u) ∧ w1.frozen? ⟨m, d + 2, none⟩ = false ∧ m < w1.heap.size) ∧
      ∃ own2 V2 C2, Mac B m d pr own2 (w1.setCell ⟨m, d + 2, none⟩ (.slice (some ⟨b1, off1, none⟩) (s.out.length + 1) cap1)) V2 C2 { s with out := s.out ++ [x] } ∧ Below B w (w1.setCell ⟨m, d + 2, none⟩ (.slice (some ⟨b1, off1, none⟩) (s.out.length + 1) cap1)) := by
  have h := M.l.row .out trivial
  rw [M.k.out] at h
  obtain ⟨A, n, c, hv⟩ := h.form
  have hl := h.len hv
  rw [ints_length] at hl
  simp only [szT, Nat.mul_one] at hl
  obtain ⟨rfl, _⟩ := hl
  obtain ⟨i0, hii, hz0, hz1, hz2⟩ := info_parts Tryz.info64
  have hsrc : Src Tryz.prog i0.size 28 (.slice (some ad) 1 cx) 1 (ints [x]) w := by
    rw [hz1]
    refine Src.ofSlice w Tryz.underlying28 ad 1 cx (ints [x]) (by simp [ints]) (fun j u hj => ?_) (fun u hu => ?_)
    · obtain ⟨h1, h2⟩ := List.getElem?_eq_some_iff.1 hj
      have hj0 : j = 0 := by simpa [ints] using h1
      subst hj0
      have : ad.add 0 = ad := by cases ad; simp [Addr.add]
      rw [this, hx, ← h2]
      simp [ints]
    · obtain ⟨z, _, rfl⟩ := List.mem_map.1 hu
      rfl
  obtain ⟨b1, off1, cap1, w1, own1, hrun, O, D, _⟩ := M.l.append (Nat.le_of_lt (Nat.lt_of_le_of_lt M.base M.lt)) (t := .out) trivial 28 2 ty 28 i0 (.int .i64 0) Tryz.underlying28 hii hz0 (by rw [hz1]; rfl) rfl (by rw [hz2]; omega) hv (.slice (some ad) 1 cx) 1 (ints [x]) hsrc (by omega) (by omega)
  obtain ⟨M2, hb2⟩ := M.addOut [x] _ D O
  obtain ⟨-, m2, m3, -⟩ := M.did D (by simp)
  rw [hv] at hrun
  exact ⟨A, c, hv, b1, off1, cap1, w1, hrun, ⟨⟨_, (m3 2 (by omega)).1.trans rfl⟩, (m3 2 (by omega)).2, m2⟩, own1, _, _, M2, hb2⟩

set_option maxRecDepth 100000 in
set_option maxHeartbeats 3200000 in
theorem doOut (B m : Nat) (vp : PV) (s : StM) (low : List FrM) (f : FrM) (st : List Int) (a op x : Int) (w : World) (hM : MacI B m vp w s) (hs : s.frames = low ++ [f]) (hst : f.stack = st ++ [a]) (hk : f.stack.length ≤ 1048575) (hl : low.length ≤ 1048575) (hok : s.out.length ≤ 1048576) :
    Doing 135 B m vp op x { (onTop s low ⟨f.func, f.pc, f.locals, st⟩) with out := s.out ++ [a] } 0 w := by
  obtain ⟨own, V, C, W, hW, M, ho, hB, hb⟩ := hM.enter op x
  have Hb : Hid (Below B w W) := hb
  have HP : Hid (Calls Tryz.prog 181 #[.pointer (some ⟨m, 0, none⟩), .int .i64 1] W.drew fun e w' => TakeTold B m vp own (onTop s low ⟨f.func, f.pc, f.locals, st⟩) [a] W.drew w' e) := implTake B m vp own V C s low f st [a] W.drew (M.below (Below.refl _ _).drew) hs hst (by omega) (by omega)
  obtain ⟨A, c, hvo⟩ := M.outForm
  obtain ⟨-, -, o3, -⟩ := M.mcell
  rw [hvo] at o3
  have hm := M.lt
  have hfree := M.free
  have HAll : Hid (∀ w1 At, TakeTold B m vp own (onTop s low ⟨f.func, f.pc, f.locals, st⟩) [a] W.drew w1 (.returned (.slice At 1 1)) → ∃ b0 o0, At = some ⟨b0, o0, none⟩ ∧ b0 < w1.heap.size ∧ w1.cell? ⟨b0, o0, none⟩ = some (.int .i64 a) ∧ w1.cell? ⟨m, 3, none⟩ = some (.slice A s.out.length c) ∧
      ∃ b1 off1 cap1 w2, (Builtin.append_ #[28, 28] 28 #[.slice A s.out.length c, .slice (some ⟨w1.heap.size, 0, none⟩) 1 1]).run Tryz.prog (w1.alloc (.cells #[.int .i64 a] 2)) = .ok (.slice (some ⟨b1, off1, none⟩) (s.out.length + 1) cap1) w2 ∧ ((∃ u, w2.cell? ⟨m, 3, none⟩ = some u) ∧ w2.frozen? ⟨m, 3, none⟩ = false ∧ m < w2.heap.size) ∧
        MacI B m vp (w2.setCell ⟨m, 3, none⟩ (.slice (some ⟨b1, off1, none⟩) (s.out.length + 1) cap1)) { (onTop s low ⟨f.func, f.pc, f.locals, st⟩) with out := s.out ++ [a] } ∧ Below B W (w2.setCell ⟨m, 3, none⟩ (.slice (some ⟨b1, off1, none⟩) (s.out.length + 1) cap1))) := by
    rintro w1 At ⟨At', V2, C2, he, M1, hr, h2, hsp, -⟩
    simp only [Ending.returned.injEq, Value.slice.injEq] at he
    obtain ⟨rfl, -, -⟩ := he
    obtain ⟨b0, o0, rfl, hlt, r0⟩ := taken1 hr
    have o3' : w1.cell? ⟨m, 3, none⟩ = some (.slice A s.out.length c) := (hsp m 3 (hfree 3) hm).trans o3
    have hV2 : V2 .out = .slice A s.out.length c := by
      have := M1.mcell.2.2.1
      rw [o3'] at this
      exact (Option.some.inj this).symm
    have hal : Below w1.heap.size w1 (w1.alloc (.cells #[.int .i64 a] 2)) := (Below.refl _ _).alloc (Nat.le_refl _) _
    obtain ⟨A', c', hv', b1, off1, cap1, w2, hrun, h3, own2, V3, C3, M3, h4⟩ := (M1.below hal).outRun hok a ⟨w1.heap.size, 0, none⟩ 1 28 (box_new w1 #[.int .i64 a] 2).at0
    rw [hV2] at hv'
    simp only [Value.slice.injEq] at hv'
    obtain ⟨rfl, -, rfl⟩ := hv'
    have hB1 : B ≤ w1.heap.size := Nat.le_of_lt (Nat.lt_of_le_of_lt M1.base M1.lt)
    exact ⟨b0, o0, rfl, hlt, r0, o3', b1, off1, cap1, w2, hrun, h3, ⟨own2, V3, C3, M3⟩, ((Below.refl _ _).drew.trans h2).trans ((hal.mono hB1).trans h4)⟩
  have HT : Hid (Calls Tryz.prog 181 #[.pointer (some ⟨m, 0, none⟩), .int .i64 1] W.drew fun e w1 => ∃ b0 o0 b1 off1 cap1 w2 u, e = .returned (.slice (some ⟨b0, o0, none⟩) 1 1) ∧ (b0 < w1.heap.size ∧ m < w1.heap.size) ∧ w1.cell? ⟨b0, o0, none⟩ = some (.int .i64 a) ∧ w1.cell? ⟨m, 3, none⟩ = some (.slice A s.out.length c) ∧
      (Builtin.append_ #[28, 28] 28 #[.slice A s.out.length c, .slice (some ⟨w1.heap.size, 0, none⟩) 1 1]).run Tryz.prog (w1.alloc (.cells #[.int .i64 a] 2)) = .ok (.slice (some ⟨b1, off1, none⟩) (s.out.length + 1) cap1) w2 ∧ w2.cell? ⟨m, 3, none⟩ = some u ∧ w2.frozen? ⟨m, 3, none⟩ = false ∧ m < w2.heap.size ∧
      Hid (MacI B m vp (w2.setCell ⟨m, 3, none⟩ (.slice (some ⟨b1, off1, none⟩) (s.out.length + 1) cap1)) { (onTop s low ⟨f.func, f.pc, f.locals, st⟩) with out := s.out ++ [a] } ∧ Below B w (w2.setCell ⟨m, 3, none⟩ (.slice (some ⟨b1, off1, none⟩) (s.out.length + 1) cap1)))) := by
    refine Calls.mono (R := fun e w' => TakeTold B m vp own (onTop s low ⟨f.func, f.pc, f.locals, st⟩) [a] W.drew w' e) HP.out ?_
    rintro e w1 ⟨At, V2, C2, rfl, M1, hr, h2, hsp, hsz⟩
    obtain ⟨b0, o0, rfl, hlt, r0, o3', b1, off1, cap1, w2, hrun, ⟨⟨u, d0⟩, d1, d2⟩, hMac, hbel⟩ := HAll.out w1 At ⟨At, V2, C2, rfl, M1, hr, h2, hsp, hsz⟩
    exact ⟨b0, o0, b1, off1, cap1, w2, u, rfl, ⟨hlt, M1.lt⟩, r0, o3', hrun, d0, d1, d2, ⟨hMac, Hb.out.trans hbel⟩⟩
  clear hM hs hst hB hb hk M hvo hfree ho HP HAll
  obtain ⟨n, hn⟩ : ∃ n, n = s.out.length := ⟨_, rfl⟩
  rw [← hn] at HT o3 hok
  clear hn
  unfold Doing
  go_enter Tryz.func135, Tryz.ntmps135
  go_wp2_with fail
  rw [← hW]
  clear hW
  go_region_law (first
    | (go_simp; go_at_call 181; refine HT.out.mono ?_; rintro e w1 ⟨b0, o0, b1, off1, cap1, w2, u, rfl, ⟨hlt, hm1⟩, r0, o3', hrun, d0, d1, d2, H1⟩)
    | (refine step_append_run rfl (.tmp 10) (.tmp 15) 28 rfl (.slice A n c) (.slice (some ⟨w1.heap.size, 0, none⟩) 1 1) (by simp [Act.eval]) (by simp [Act.eval]) _ _ hrun ?_))
  all_goals
    go_wp2_with fail
    go_ret
    exact ⟨rfl, H1.out.1, H1.out.2⟩
end Go.Proofs.YtnknnncehcofnaaGreatDoor

namespace Go.Proofs.YtnknnncehcofnaaGreatDoor
open Go.RowKit

set_option maxRecDepth 100000 in
set_option maxHeartbeats 1600000 in
theorem implPutValue (B m : Nat) (vp : PV) (s : StM) (low : List FrM) (f : FrM) (x t : Int) (w : World) (hM : MacI B m vp w s) (hs : s.frames = low ++ [f]) (hk : f.stack.length ≤ 1048575) (hl : low.length ≤ 1048575) :
    Calls Tryz.prog 184 #[.pointer (some ⟨m, 0, none⟩), .agg #[.int .i64 x, .int .i64 t]] w fun e w' => MacTold B m vp (if t = 0 then onTop s low ⟨f.func, f.pc, f.locals, f.stack ++ [x]⟩ else s) (.int .i64 t) w w' e := by
  have hal : Below w.heap.size w (w.alloc (.cells #[.int .i64 x, .int .i64 t] 166)) := (Below.refl _ _).alloc (Nat.le_refl _) _
  obtain ⟨s', hs'⟩ : ∃ s', s' = if t = 0 then onTop s low ⟨f.func, f.pc, f.locals, f.stack ++ [x]⟩ else s := ⟨_, rfl⟩
  rw [← hs']
  have Hs' : Hid (s' = if t = 0 then onTop s low ⟨f.func, f.pc, f.locals, f.stack ++ [x]⟩ else s) := hs'
  have hB := hM.hB
  obtain ⟨own, V, C, M⟩ := hM
  have HM : Hid (MacI B m vp (w.alloc (.cells #[.int .i64 x, .int .i64 t] 166)) s) := ⟨own, V, C, M.below hal⟩
  have Hb : Hid (Below B w (w.alloc (.cells #[.int .i64 x, .int .i64 t] 166))) := hal.mono hB
  obtain ⟨W, hW⟩ : ∃ W, W = w.alloc (.cells #[.int .i64 x, .int .i64 t] 166) := ⟨_, rfl⟩
  have HX : Hid (Box W w.heap.size #[.int .i64 x, .int .i64 t]) := by rw [hW]; exact box_new w _ _
  rw [← hW] at HM Hb
  have HM2 : Hid (Mac B m 1 (prOf vp) (cutOwn w.heap.size own) W V C s) := by rw [hW]; exact M.cutOwn.below hal
  have Hno : Hid (∀ j, cutOwn w.heap.size own w.heap.size j = .no) := fun j => by show (if w.heap.size < w.heap.size then _ else _) = _; rw [if_neg (by omega)]
  clear M hs' hal
  by_cases h0 : t = 0
  · obtain rfl : s' = onTop s low ⟨f.func, f.pc, f.locals, f.stack ++ [x]⟩ := by rw [Hs'.out, if_pos h0]
    subst h0
    have HP : Hid (Calls Tryz.prog 180 #[.pointer (some ⟨m, 0, none⟩), .int .i64 x] W fun e w' => MacTold B m vp (onTop s low ⟨f.func, f.pc, f.locals, f.stack ++ [x]⟩) (.tuple #[]) W w' e ∧ Spare (cutOwn w.heap.size own) W w') := implPutS B m vp _ V C s low f x W HM2.out hs (by omega) (by omega)
    clear hs
    go_enter Tryz.func184, Tryz.ntmps184
    go_wp2_with fail
    rw [← hW]
    clear hW
    refine Calls.mono (R := fun e w' => MacTold B m vp (onTop s low ⟨f.func, f.pc, f.locals, f.stack ++ [x]⟩) (.tuple #[]) W w' e ∧ Spare (cutOwn w.heap.size own) W w') HP.out ?_
    rintro e w1 ⟨⟨rfl, h1, h2⟩, h3⟩
    have v1 := (h3 w.heap.size 1 (Hno.out 1) HX.out.1).trans HX.out.at1
    have H1 : Hid (MacI B m vp w1 (onTop s low ⟨f.func, f.pc, f.locals, f.stack ++ [x]⟩) ∧ Below B w w1) := ⟨h1, Hb.out.trans h2⟩
    clear h1 h2 h3 HP
    go_wp2_with fail
    go_ret
    exact ⟨rfl, H1.out.1, H1.out.2⟩
  · obtain rfl : s' = s := by rw [Hs'.out, if_neg h0]
    have h0' : (t == 0) = false := by simpa using h0
    clear hs
    go_enter Tryz.func184, Tryz.ntmps184
    go_wp2_with fail
    rw [← hW]
    go_ret
    exact ⟨rfl, HM.out, Hb.out⟩

set_option maxRecDepth 100000 in
set_option maxHeartbeats 3200000 in
theorem doBinary (B m : Nat) (vp : PV) (s : StM) (low : List FrM) (f : FrM) (st : List Int) (a b op x : Int) (w : World) (hM : MacI B m vp w s) (hs : s.frames = low ++ [f]) (hst : f.stack = st ++ [a, b]) (hk : f.stack.length ≤ 1048575) (hl : low.length ≤ 1048575) :
    Doing 136 B m vp op x (if binT op b = 0 then onTop s low ⟨f.func, f.pc, f.locals, st ++ [binN op a b]⟩ else onTop s low ⟨f.func, f.pc, f.locals, st⟩) (binT op b) w := by
  have HBin : Hid (∀ W, Calls Tryz.prog 189 #[.int .i64 op, .int .i64 a, .int .i64 b] W fun e w' => e = .returned (.agg #[.int .i64 (binN op a b), .int .i64 (binT op b)]) ∧ Below W.heap.size W w') := fun W => implBinary op a b W
  have hk' : st.length ≤ 1048575 := by rw [hst] at hk; simp at hk; omega
  have HPV : Hid (∀ w2, MacI B m vp w2 (onTop s low ⟨f.func, f.pc, f.locals, st⟩) → Calls Tryz.prog 184 #[.pointer (some ⟨m, 0, none⟩), .agg #[.int .i64 (binN op a b), .int .i64 (binT op b)]] w2 fun e w' => MacTold B m vp (if binT op b = 0 then onTop s low ⟨f.func, f.pc, f.locals, st ++ [binN op a b]⟩ else onTop s low ⟨f.func, f.pc, f.locals, st⟩) (.int .i64 (binT op b)) w2 w' e) := fun w2 h2 => implPutValue B m vp (onTop s low ⟨f.func, f.pc, f.locals, st⟩) low ⟨f.func, f.pc, f.locals, st⟩ _ _ w2 h2 rfl hk' hl
  obtain ⟨s', hs'⟩ : ∃ s', s' = if binT op b = 0 then onTop s low ⟨f.func, f.pc, f.locals, st ++ [binN op a b]⟩ else onTop s low ⟨f.func, f.pc, f.locals, st⟩ := ⟨_, rfl⟩
  rw [← hs'] at HPV ⊢
  clear hs'
  generalize binT op b = tr at HPV HBin ⊢
  generalize binN op a b = nn at HPV HBin
  obtain ⟨own, V, C, W, hW, M, ho, hB, hb⟩ := hM.enter op x
  have Hb : Hid (Below B w W) := hb
  have HB : Hid (Box W w.heap.size #[.int .i64 op, .int .i64 x]) := hB
  have HP : Hid (Calls Tryz.prog 181 #[.pointer (some ⟨m, 0, none⟩), .int .i64 2] W fun e w' => TakeTold B m vp own (onTop s low ⟨f.func, f.pc, f.locals, st⟩) [a, b] W w' e) := implTake B m vp own V C s low f st [a, b] W M hs hst (by omega) (by omega)
  clear hM hs hst M hB hb hk
  unfold Doing
  go_enter Tryz.func136, Tryz.ntmps136
  go_wp2_with fail
  rw [← hW]
  refine Calls.mono (R := fun e w' => TakeTold B m vp own (onTop s low ⟨f.func, f.pc, f.locals, st⟩) [a, b] W w' e) HP.out ?_
  rintro e w1 ⟨At, V2, C2, rfl, M1, hr, h2, hsp, -⟩
  obtain ⟨b0, o0, rfl, hlt, r0, r1⟩ := taken2 hr
  have i0 := (hsp w.heap.size 0 (ho 0) HB.out.1).trans HB.out.at0
  have iz : w.heap.size < w1.heap.size := Nat.lt_of_lt_of_le HB.out.1 h2.size
  have Hb1 : Hid (Below B w w1) := Hb.out.trans h2
  have HM1 : Hid (∀ w2, Below w1.heap.size w1 w2 → MacI B m vp w2 (onTop s low ⟨f.func, f.pc, f.locals, st⟩) ∧ Below B w w2) := fun w2 hb2 => ⟨⟨_, _, _, M1.below hb2⟩, (Hb.out.trans h2).trans (hb2.mono (Nat.le_of_lt (Nat.lt_of_le_of_lt M1.base M1.lt)))⟩
  clear M1 hr h2 hsp HP ho hW
  go_wp2_with fail
  go_region_with (first
    | (go_at_call 189; refine (HBin.out _).mono ?_; rintro e w2 ⟨rfl, hb2⟩
       have hb2' : Below w1.heap.size w1 w2 := (Below.refl _ _).drew.trans (hb2.mono (Nat.le_refl _)))
    | (go_at_call 184; refine Calls.mono (R := fun e w' => MacTold B m vp s' (.int .i64 tr) w2 w' e) (HPV.out w2 (HM1.out w2 hb2').1) ?_; rintro e w3 ⟨rfl, h1, h2⟩
       have H3 : Hid (MacI B m vp w3 s' ∧ Below B w w3) := ⟨h1, (HM1.out w2 hb2').2.trans h2⟩
       clear h1 h2))
  all_goals
    go_wp2_with fail
    go_ret
    exact ⟨rfl, H3.out.1, H3.out.2⟩

set_option maxRecDepth 100000 in
set_option maxHeartbeats 3200000 in
theorem doUnary (B m : Nat) (vp : PV) (s : StM) (low : List FrM) (f : FrM) (st : List Int) (a op x : Int) (w : World) (hM : MacI B m vp w s) (hs : s.frames = low ++ [f]) (hst : f.stack = st ++ [a]) (hk : f.stack.length ≤ 1048575) (hl : low.length ≤ 1048575) :
    Doing 137 B m vp op x (onTop s low ⟨f.func, f.pc, f.locals, st ++ [unN op a]⟩) 0 w := by
  have HBin : Hid (∀ W, Calls Tryz.prog 190 #[.int .i64 op, .int .i64 a] W fun e w' => e = .returned (.agg #[.int .i64 (unN op a), .int .i64 0]) ∧ Below W.heap.size W w') := fun W => implUnary op a W
  have hk' : st.length ≤ 1048575 := by rw [hst] at hk; simp at hk; omega
  have HPV : Hid (∀ w2, MacI B m vp w2 (onTop s low ⟨f.func, f.pc, f.locals, st⟩) → Calls Tryz.prog 184 #[.pointer (some ⟨m, 0, none⟩), .agg #[.int .i64 (unN op a), .int .i64 0]] w2 fun e w' => MacTold B m vp (onTop s low ⟨f.func, f.pc, f.locals, st ++ [unN op a]⟩) (.int .i64 0) w2 w' e) := fun w2 h2 => by
    have := implPutValue B m vp (onTop s low ⟨f.func, f.pc, f.locals, st⟩) low ⟨f.func, f.pc, f.locals, st⟩ (unN op a) 0 w2 h2 rfl hk' hl
    rwa [if_pos rfl] at this
  generalize unN op a = nn at HPV HBin ⊢
  obtain ⟨own, V, C, W, hW, M, ho, hB, hb⟩ := hM.enter op x
  have Hb : Hid (Below B w W) := hb
  have HB : Hid (Box W w.heap.size #[.int .i64 op, .int .i64 x]) := hB
  have i0 := hB.at0
  have iz0 := hB.1
  have HT : Hid (Calls Tryz.prog 181 #[.pointer (some ⟨m, 0, none⟩), .int .i64 1] W.drew fun e w1 => ∃ b0 o0, e = .returned (.slice (some ⟨b0, o0, none⟩) 1 1) ∧ (b0 < w1.heap.size ∧ w.heap.size < w1.heap.size) ∧ w1.cell? ⟨b0, o0, none⟩ = some (.int .i64 a) ∧ w1.cell? ⟨w.heap.size, 0, none⟩ = some (.int .i64 op) ∧
      Hid (∀ w2, Below w1.heap.size w1 w2 → MacI B m vp w2 (onTop s low ⟨f.func, f.pc, f.locals, st⟩) ∧ Below B w w2)) := by
    refine Calls.mono (implTake B m vp own V C s low f st [a] W.drew (M.below (Below.refl _ _).drew) hs hst (by omega) (by omega)) ?_
    rintro e w1 ⟨At, V2, C2, rfl, M1, hr, h2, hsp, -⟩
    obtain ⟨b0, o0, rfl, hlt, r0⟩ := taken1 hr
    have h2' : Below B W w1 := (Below.refl _ _).drew.trans h2
    exact ⟨b0, o0, rfl, ⟨hlt, Nat.lt_of_lt_of_le hB.1 h2'.size⟩, r0, (hsp w.heap.size 0 (ho 0) hB.1).trans i0, fun w2 hb2 => ⟨⟨_, _, _, M1.below hb2⟩, (hb.trans h2').trans (hb2.mono (Nat.le_of_lt (Nat.lt_of_le_of_lt M1.base M1.lt)))⟩⟩
  clear hM hs hst M hB hb hk ho
  unfold Doing
  go_enter Tryz.func137, Tryz.ntmps137
  go_wp2_with fail
  rw [← hW]
  clear hW
  go_region_with (first
    | (go_at_call 181; refine HT.out.mono ?_; rintro e w1 ⟨b0, o0, rfl, ⟨hlt, iz⟩, r0, i0', HM1⟩)
    | (go_at_call 190; refine (HBin.out _).mono ?_; rintro e w2 ⟨rfl, hb2⟩)
    | (go_at_call 184; refine Calls.mono (R := fun e w' => MacTold B m vp (onTop s low ⟨f.func, f.pc, f.locals, st ++ [nn]⟩) (.int .i64 0) w2 w' e) (HPV.out w2 (HM1.out w2 hb2).1) ?_; rintro e w3 ⟨rfl, h1, h2⟩
       have H3 : Hid (MacI B m vp w3 (onTop s low ⟨f.func, f.pc, f.locals, st ++ [nn]⟩) ∧ Below B w w3) := ⟨h1, (HM1.out w2 hb2).2.trans h2⟩
       clear h1 h2))
  all_goals
    go_wp2_with fail
    go_ret
    exact ⟨rfl, H3.out.1, H3.out.2⟩
end Go.Proofs.YtnknnncehcofnaaGreatDoor

namespace Go.Proofs.YtnknnncehcofnaaGreatDoor
open Go.RowKit

/-- an array of the heap, told for a walk -/
structure ArrAt (V : Tag → Value) (w : World) (B m n i bh oh ch : Nat) (a : List Int) (Aa : Option Addr) (ca : Nat) : Prop where
  c2 : w.cell? ⟨m, 2, none⟩ = some (.slice (some ⟨bh, oh, none⟩) n ch)
  lt : bh < w.heap.size
  cell : w.cell? ⟨bh, oh + i, none⟩ = some (.slice Aa a.length ca)
  row : IRow B w (.slice Aa a.length ca) a
  slice : V (.arr i) = .slice Aa a.length ca

theorem Mac.hpForm {B m d : Nat} {pr : Pr} {own : Nat → Nat → Tag} {w : World} {V : Tag → Value} {C : Tag → List Value} {s : StM} (M : Mac B m d pr own w V C s) : ∃ A c, V .hp = .slice A s.heap.length c := by
  have h := M.l.row .hp trivial
  rw [M.k.hp] at h
  obtain ⟨A, n, c, hv⟩ := h.form
  have hl := h.len hv
  simp [szT] at hl
  obtain ⟨rfl, _⟩ := hl
  exact ⟨A, c, hv⟩

theorem Mac.arrAt {B m : Nat} {pr : Pr} {own : Nat → Nat → Tag} {w : World} {V : Tag → Value} {C : Tag → List Value} {s : StM} (M : Mac B m 1 pr own w V C s) (i : Nat) (hi : i < s.heap.length) (ha : s.heap[i].length ≤ 1048576) :
    ∃ bh oh ch Aa ca, ArrAt V w B m s.heap.length i bh oh ch s.heap[i] Aa ca := by
  have hlen : (C .hp).length = s.heap.length := by rw [M.k.hp]; simp
  obtain ⟨bh, oh, n, ch, hv, _, hn, _, hlt, c0, _, _⟩ := M.l.at (t := .hp) trivial (k := i) (by omega)
  have hn' : n = s.heap.length := by simp only [szT] at hn; omega
  subst hn'
  have hr := M.l.row (.arr i) hi
  rw [M.k.arr i hi] at hr
  obtain ⟨Aa, na, ca, hva⟩ := hr.form
  have hl := hr.len hva
  rw [ints_length] at hl
  simp only [szT, Nat.mul_one] at hl
  obtain ⟨rfl, _⟩ := hl
  have hir : IRow B w (V (.arr i)) s.heap[i] := Holds.irow hr (by omega)
  have c2 := M.mcell.2.1
  rw [hv] at c2
  have : (C .hp)[i]? = some (V (.arr i)) := by rw [M.k.hp]; simp [hi]
  rw [List.getElem?_eq_getElem (by omega)] at this
  rw [Option.some.inj this, hva] at c0
  rw [hva] at hir
  exact ⟨bh, oh, ch, Aa, ca, c2, hlt, c0, hir, hva⟩

set_option maxHeartbeats 800000 in
theorem implArrIn (m n i bh oh ch : Nat) (v : Value) (w : World) (c2 : w.cell? ⟨m, 2, none⟩ = some (.slice (some ⟨bh, oh, none⟩) n ch)) (hi : i < n) (hn : n ≤ 1048576) (c3 : w.cell? ⟨bh, oh + i, none⟩ = some v) :
    Calls Tryz.prog 217 #[.pointer (some ⟨m, 1, none⟩), .int .i64 ((i : Int) + 1)] w fun e w' => e = .returned (.tuple #[v, .int .i64 0]) ∧ w' = w := by
  go_enter Tryz.func217, Tryz.ntmps217
  go_wp2_with fail
  exact bodyPost_ret (v := .tuple #[v, .int .i64 0]) (by simp [results, Tryz.results217, go_sem]) rfl ⟨rfl, rfl⟩

set_option maxHeartbeats 800000 in
theorem implArrOut (m n ch : Nat) (A : Option Addr) (x : Int) (w : World) (c2 : w.cell? ⟨m, 2, none⟩ = some (.slice A n ch)) (hx : ¬ (1 ≤ x ∧ x ≤ n)) :
    Calls Tryz.prog 217 #[.pointer (some ⟨m, 1, none⟩), .int .i64 x] w fun e w' => e = .returned (.tuple #[.slice none 0 0, .int .i64 13]) ∧ w' = w := by
  by_cases h1 : 1 ≤ x
  · have h2 : (n : Int) < x := by omega
    go_enter Tryz.func217, Tryz.ntmps217
    go_wp2_with fail
    exact bodyPost_ret (v := .tuple #[.slice none 0 0, .int .i64 13]) (by simp [results, Tryz.results217, go_sem]) rfl ⟨rfl, rfl⟩
  · go_enter Tryz.func217, Tryz.ntmps217
    go_wp2_with fail
    exact bodyPost_ret (v := .tuple #[.slice none 0 0, .int .i64 13]) (by simp [results, Tryz.results217, go_sem]) rfl ⟨rfl, rfl⟩

/-- where a number of an array stands: its pointer, or a trap -/
inductive CellIs (hp : List (List Int)) (V : Tag → Value) (a b : Int) : Value → Int → Prop
  | noArr : ¬ (1 ≤ a ∧ a ≤ hp.length) → CellIs hp V a b (.pointer none) 13
  | noAt (i : Nat) (h : i < hp.length) : a = (i : Int) + 1 → ¬ (0 ≤ b ∧ b < hp[i].length) → CellIs hp V a b (.pointer none) 12
  | at (i j : Nat) (h : i < hp.length) (hj : j < hp[i].length) (ba oa ca : Nat) : a = (i : Int) + 1 → b = j → V (.arr i) = .slice (some ⟨ba, oa, none⟩) hp[i].length ca → CellIs hp V a b (.pointer (some ⟨ba, oa + j, none⟩)) 0

def CellTold (hp : List (List Int)) (V : Tag → Value) (a b : Int) (w w' : World) (e : Ending) : Prop := ∃ v t, e = .returned (.tuple #[v, .int .i64 t]) ∧ CellIs hp V a b v t ∧ w' = w

set_option maxRecDepth 100000 in
set_option maxHeartbeats 1600000 in
theorem implCell {B m : Nat} {pr : Pr} {own : Nat → Nat → Tag} {w : World} {V : Tag → Value} {C : Tag → List Value} {s : StM} (M : Mac B m 1 pr own w V C s) (a b : Int) (hs : s.heap.length ≤ 1048576) (ha : ∀ x ∈ s.heap, x.length ≤ 1048576) :
    Calls Tryz.prog 216 #[.pointer (some ⟨m, 1, none⟩), .int .i64 a, .int .i64 b] w fun e w' => CellTold s.heap V a b w w' e := by
  by_cases h1 : 1 ≤ a ∧ a ≤ s.heap.length
  · obtain ⟨i, hi⟩ := Int.eq_ofNat_of_zero_le (show 0 ≤ a - 1 by omega)
    have hai : a = (i : Int) + 1 := by omega
    subst hai
    have hil : i < s.heap.length := by omega
    have hal := ha s.heap[i] (List.getElem_mem hil)
    obtain ⟨bh, oh, ch, Aa, ca, A⟩ := M.arrAt i hil hal
    have HA : Hid (Calls Tryz.prog 217 #[.pointer (some ⟨m, 1, none⟩), .int .i64 ((i : Int) + 1)] w fun e w' => e = .returned (.tuple #[.slice Aa s.heap[i].length ca, .int .i64 0]) ∧ w' = w) := implArrIn m s.heap.length i bh oh ch _ w A.c2 hil hs A.cell
    by_cases h2 : 0 ≤ b ∧ b < s.heap[i].length
    · obtain ⟨j, rfl⟩ := Int.eq_ofNat_of_zero_le h2.1
      have hj : j < s.heap[i].length := by omega
      obtain ⟨ba, oa, rfl, _, hlt, c0⟩ := A.row.at j hj
      have HC : Hid (CellIs s.heap V ((i : Int) + 1) j (.pointer (some ⟨ba, oa + j, none⟩)) 0) := .at i j hil hj ba oa ca rfl rfl A.slice
      have hL : inL (j : Int) s.heap[i].length = true := by simpa [inL] using hj
      clear A M h1
      obtain ⟨n, hn⟩ : ∃ n, n = s.heap[i].length := ⟨_, rfl⟩
      rw [← hn] at HA hj hal hL h2
      clear hn
      go_enter Tryz.func216, Tryz.ntmps216
      go_wp2_with fail
      refine HA.out.mono ?_
      rintro e w1 ⟨rfl, h⟩
      subst w1
      go_wp2_with fail
      refine (inList (j : Int) n _ (by omega)).mono ?_
      rintro e w1 ⟨rfl, h⟩
      subst w1
      rw [hL]
      go_wp2_with fail
      exact bodyPost_ret (v := .tuple #[.pointer (some ⟨ba, oa + j, none⟩), .int .i64 0]) (by simp [results, Tryz.results216, go_sem]) rfl ⟨_, _, rfl, HC.out, rfl⟩
    · have HC : Hid (CellIs s.heap V ((i : Int) + 1) b (.pointer none) 12) := .noAt i hil rfl h2
      have hL : inL b s.heap[i].length = false := by simp only [inL, decide_eq_false_iff_not]; exact h2
      clear A M h1
      obtain ⟨n, hn⟩ : ∃ n, n = s.heap[i].length := ⟨_, rfl⟩
      rw [← hn] at HA hal hL h2
      clear hn
      go_enter Tryz.func216, Tryz.ntmps216
      go_wp2_with fail
      refine HA.out.mono ?_
      rintro e w1 ⟨rfl, h⟩
      subst w1
      go_wp2_with fail
      refine (inList b n _ (by omega)).mono ?_
      rintro e w1 ⟨rfl, h⟩
      subst w1
      rw [hL]
      go_wp2_with fail
      exact bodyPost_ret (v := .tuple #[.pointer none, .int .i64 12]) (by simp [results, Tryz.results216, go_sem]) rfl ⟨_, _, rfl, HC.out, rfl⟩
  · obtain ⟨A, c, hv⟩ := M.hpForm
    have c2 := M.mcell.2.1
    rw [hv] at c2
    have HA : Hid (Calls Tryz.prog 217 #[.pointer (some ⟨m, 1, none⟩), .int .i64 a] w fun e w' => e = .returned (.tuple #[.slice none 0 0, .int .i64 13]) ∧ w' = w) := implArrOut m s.heap.length c A a w c2 h1
    have HC : Hid (CellIs s.heap V a b (.pointer none) 13) := .noArr h1
    clear M hv c2 h1
    go_enter Tryz.func216, Tryz.ntmps216
    go_wp2_with fail
    refine HA.out.mono ?_
    rintro e w1 ⟨rfl, h⟩
    subst w1
    go_wp2_with fail
    exact bodyPost_ret (v := .tuple #[.pointer none, .int .i64 13]) (by simp [results, Tryz.results216, go_sem]) rfl ⟨_, _, rfl, HC.out, rfl⟩
end Go.Proofs.YtnknnncehcofnaaGreatDoor

namespace Go.Proofs.YtnknnncehcofnaaGreatDoor
open Go.RowKit

theorem arr_at {hp : List (List Int)} {i : Nat} (h : i < hp.length) : hp.getD ((i : Int) + 1 - 1).toNat [] = hp[i] := by
  rw [show ((i : Int) + 1 - 1).toNat = i by omega]
  simp [List.getD, h]

/-- what is got -/
theorem doM_get (hp : List (List Int)) (a b : Int) : (doM 35 [a, b] hp).1 = if ¬ (1 ≤ a ∧ a ≤ hp.length) then (0, 13) else if ¬ (0 ≤ b ∧ b < (hp.getD (a - 1).toNat []).length) then (0, 12) else ((hp.getD (a - 1).toNat []).getD b.toNat 0, 0) := by
  unfold doM
  simp only [List.getD_cons_zero, List.getD_cons_succ]
  rw [if_neg (by omega), if_neg (by omega), if_neg (by omega)]
  split
  · rfl
  rw [if_neg (by omega)]
  split
  · rfl
  rw [if_neg (by omega)]

def ValTold (n t : Int) (w w' : World) (e : Ending) : Prop := e = .returned (.agg #[.int .i64 n, .int .i64 t]) ∧ Below w.heap.size w w'

set_option maxRecDepth 100000 in
set_option maxHeartbeats 1600000 in
theorem implGetN {B m : Nat} {pr : Pr} {own : Nat → Nat → Tag} {w : World} {V : Tag → Value} {C : Tag → List Value} {s : StM} (M : Mac B m 1 pr own w V C s) (a b : Int) (hs : s.heap.length ≤ 1048576) (ha : ∀ x ∈ s.heap, x.length ≤ 1048576) :
    Calls Tryz.prog 186 #[.pointer (some ⟨m, 1, none⟩), .int .i64 a, .int .i64 b] w fun e w' => ValTold (doM 35 [a, b] s.heap).1.1 (doM 35 [a, b] s.heap).1.2 w w' e := by
  obtain ⟨x, hx⟩ : ∃ x, x = (doM 35 [a, b] s.heap).1 := ⟨_, rfl⟩
  rw [← hx]
  have Hx : Hid (x = (doM 35 [a, b] s.heap).1) := hx
  clear hx
  obtain ⟨W, hW⟩ : ∃ W, W = w.alloc (.cells #[.int .i64 0, .int .i64 0] 166) := ⟨_, rfl⟩
  have hal : Below w.heap.size w W := by rw [hW]; exact (Below.refl _ _).alloc (Nat.le_refl _) _
  have Hal : Hid (Below w.heap.size w W) := hal
  have X := vrow_new w #[.int .i64 0, .int .i64 0] 166
  rw [← hW] at X
  have HC : Hid (Calls Tryz.prog 216 #[.pointer (some ⟨m, 1, none⟩), .int .i64 a, .int .i64 b] W fun e w' => CellTold s.heap V a b W w' e) := implCell (M.below hal) a b hs ha
  have HR : Hid (∀ i, i < s.heap.length → ∀ ba oa n ca, V (.arr i) = .slice (some ⟨ba, oa, none⟩) n ca → ∀ (h : i < s.heap.length) j (hj : j < s.heap[i].length), ba < W.heap.size ∧ W.cell? ⟨ba, oa + j, none⟩ = some (.int .i64 s.heap[i][j])) := fun i hi ba oa n ca hv h j hj => by
    replace M := M.below hal
    obtain ⟨b', off', n', cap', hv', _, _, _, hlt, c0, _, _⟩ := M.l.at (t := .arr i) hi (k := j) (by rw [M.k.arr i hi, ints_length]; exact hj)
    rw [hv] at hv'
    simp only [Value.slice.injEq, Option.some.injEq, Addr.mk.injEq, and_true] at hv'
    obtain ⟨⟨rfl, rfl⟩, _⟩ := hv'
    refine ⟨hlt, ?_⟩
    rw [c0]
    have e := M.k.arr i hi
    have : (C (.arr i))[j]? = some (.int .i64 s.heap[i][j]) := by rw [e]; simp [ints, hj]
    rw [List.getElem?_eq_getElem (by rw [e, ints_length]; exact hj)] at this
    exact this
  have x0 := X.1
  obtain ⟨x1, x2⟩ := X.2 0 (by simp)
  obtain ⟨x3, x4⟩ := X.2 1 (by simp)
  simp at x1 x3
  clear M X hal
  go_enter Tryz.func186, Tryz.ntmps186
  go_wp2_with fail
  rw [← hW]
  clear hW
  refine Calls.mono (R := fun e w' => CellTold s.heap V a b W w' e) HC.out ?_
  rintro e w1 ⟨v, t, rfl, hc, h⟩
  subst w1
  cases hc with
  | noArr h1 =>
    obtain rfl : x = (0, 13) := by rw [Hx.out, doM_get, if_pos h1]
    go_wp2_with fail
    exact bodyPost_ret (v := .agg #[.int .i64 0, .int .i64 13]) (by simp [results, Tryz.results186, go_sem, x1, x3]) rfl ⟨rfl, (Hal.out.setCell (by simp) _).setCell (by simp) _⟩
  | noAt i h h1 h2 =>
    obtain rfl : x = (0, 12) := by rw [Hx.out, doM_get, h1, arr_at h, if_neg (by omega), if_pos h2]
    go_wp2_with fail
    exact bodyPost_ret (v := .agg #[.int .i64 0, .int .i64 12]) (by simp [results, Tryz.results186, go_sem, x1, x3]) rfl ⟨rfl, (Hal.out.setCell (by simp) _).setCell (by simp) _⟩
  | «at» i j h hj ba oa ca h1 h2 h3 =>
    obtain ⟨hlt, c0⟩ := HR.out i h ba oa _ ca h3 h j hj
    obtain rfl : x = (s.heap[i][j], 0) := by
      rw [Hx.out, doM_get, h1, h2, arr_at h, if_neg (by omega), if_neg (by omega)]
      simp [List.getD, hj]
    clear HR
    go_wp2_with fail
    exact bodyPost_ret (v := .agg #[.int .i64 s.heap[i][j], .int .i64 0]) (by simp [results, Tryz.results186, go_sem, x1, x3]) rfl ⟨rfl, (Hal.out.setCell (by simp) _).setCell (by simp) _⟩

set_option maxRecDepth 100000 in
set_option maxHeartbeats 3200000 in
theorem doGet (B m : Nat) (vp : PV) (s : StM) (low : List FrM) (f : FrM) (st : List Int) (a b op x : Int) (w : World) (hM : MacI B m vp w s) (hs : s.frames = low ++ [f]) (hst : f.stack = st ++ [a, b]) (hk : f.stack.length ≤ 1048575) (hl : low.length ≤ 1048575) (hh : s.heap.length ≤ 1048576) (ha : ∀ x ∈ s.heap, x.length ≤ 1048576) :
    Doing 132 B m vp op x (if (doM 35 [a, b] s.heap).1.2 = 0 then onTop s low ⟨f.func, f.pc, f.locals, st ++ [(doM 35 [a, b] s.heap).1.1]⟩ else onTop s low ⟨f.func, f.pc, f.locals, st⟩) (doM 35 [a, b] s.heap).1.2 w := by
  have hk' : st.length ≤ 1048575 := by rw [hst] at hk; simp at hk; omega
  have HG0 : Hid (∀ own V C w1, Mac B m 1 (prOf vp) own w1 V C (onTop s low ⟨f.func, f.pc, f.locals, st⟩) → Calls Tryz.prog 186 #[.pointer (some ⟨m, 1, none⟩), .int .i64 a, .int .i64 b] w1 fun e w' => ValTold (doM 35 [a, b] s.heap).1.1 (doM 35 [a, b] s.heap).1.2 w1 w' e) := fun own V C w1 M1 => implGetN M1 a b hh ha
  have HPV : Hid (∀ w2, MacI B m vp w2 (onTop s low ⟨f.func, f.pc, f.locals, st⟩) → Calls Tryz.prog 184 #[.pointer (some ⟨m, 0, none⟩), .agg #[.int .i64 (doM 35 [a, b] s.heap).1.1, .int .i64 (doM 35 [a, b] s.heap).1.2]] w2 fun e w' => MacTold B m vp (if (doM 35 [a, b] s.heap).1.2 = 0 then onTop s low ⟨f.func, f.pc, f.locals, st ++ [(doM 35 [a, b] s.heap).1.1]⟩ else onTop s low ⟨f.func, f.pc, f.locals, st⟩) (.int .i64 (doM 35 [a, b] s.heap).1.2) w2 w' e) := fun w2 h2 => implPutValue B m vp (onTop s low ⟨f.func, f.pc, f.locals, st⟩) low ⟨f.func, f.pc, f.locals, st⟩ _ _ w2 h2 rfl hk' hl
  obtain ⟨s', hs'⟩ : ∃ s', s' = if (doM 35 [a, b] s.heap).1.2 = 0 then onTop s low ⟨f.func, f.pc, f.locals, st ++ [(doM 35 [a, b] s.heap).1.1]⟩ else onTop s low ⟨f.func, f.pc, f.locals, st⟩ := ⟨_, rfl⟩
  rw [← hs'] at HPV ⊢
  clear hs'
  generalize (doM 35 [a, b] s.heap).1.2 = tr at HPV HG0 ⊢
  generalize (doM 35 [a, b] s.heap).1.1 = nn at HPV HG0
  obtain ⟨own, V, C, W, hW, M, ho, hB, hb⟩ := hM.enter op x
  have Hb : Hid (Below B w W) := hb
  have HP : Hid (Calls Tryz.prog 181 #[.pointer (some ⟨m, 0, none⟩), .int .i64 2] W fun e w' => TakeTold B m vp own (onTop s low ⟨f.func, f.pc, f.locals, st⟩) [a, b] W w' e) := implTake B m vp own V C s low f st [a, b] W M hs hst (by omega) (by omega)
  clear hM hs hst M hB hb hk ho
  unfold Doing
  go_enter Tryz.func132, Tryz.ntmps132
  go_wp2_with fail
  rw [← hW]
  clear hW
  refine Calls.mono (R := fun e w' => TakeTold B m vp own (onTop s low ⟨f.func, f.pc, f.locals, st⟩) [a, b] W w' e) HP.out ?_
  rintro e w1 ⟨At, V2, C2, rfl, M1, hr, h2, hsp, -⟩
  obtain ⟨b0, o0, rfl, hlt, r0, r1⟩ := taken2 hr
  have hm := M1.lt
  have HG : Hid (Calls Tryz.prog 186 #[.pointer (some ⟨m, 1, none⟩), .int .i64 a, .int .i64 b] w1.drew fun e w' => ValTold nn tr w1.drew w' e) := HG0.out _ _ _ _ (M1.below (Below.refl _ _).drew)
  have HM1 : Hid (∀ w2, Below w1.heap.size w1 w2 → MacI B m vp w2 (onTop s low ⟨f.func, f.pc, f.locals, st⟩) ∧ Below B w w2) := fun w2 hb2 => ⟨⟨_, _, _, M1.below hb2⟩, (Hb.out.trans h2).trans (hb2.mono (Nat.le_of_lt (Nat.lt_of_le_of_lt M1.base M1.lt)))⟩
  clear M1 hr h2 hsp HP HG0
  go_wp2_with fail
  go_region_with (first
    | (go_at_call 186; refine Calls.mono (R := fun e w' => ValTold nn tr w1.drew w' e) HG.out ?_; rintro e w2 ⟨rfl, hb2⟩
       have hb2' : Below w1.heap.size w1 w2 := (Below.refl _ _).drew.trans (hb2.mono (Nat.le_refl _)))
    | (go_at_call 184; refine Calls.mono (R := fun e w' => MacTold B m vp s' (.int .i64 tr) w2 w' e) (HPV.out w2 (HM1.out w2 hb2').1) ?_; rintro e w3 ⟨rfl, h1, h2⟩
       have H3 : Hid (MacI B m vp w3 s' ∧ Below B w w3) := ⟨h1, (HM1.out w2 hb2').2.trans h2⟩
       clear h1 h2))
  all_goals
    go_wp2_with fail
    go_ret
    exact ⟨rfl, H3.out.1, H3.out.2⟩
end Go.Proofs.YtnknnncehcofnaaGreatDoor
