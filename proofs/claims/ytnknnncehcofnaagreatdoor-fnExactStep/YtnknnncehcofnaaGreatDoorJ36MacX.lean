/- The model's machine: a state in its own memory behind a pointer. l06Trap, l06Goes. What a switch's branch of l06Step does to the machine: numbers put on top, a number told, a frame put on top, the last frame gone. Ops of two numbers: that spec.Binary answers the plain function of Bin. -/
import Derived.Test.YtnknnncehcofnaaGreatDoorCopyU
import Derived.Test.YtnknnncehcofnaaGreatDoorJ24MacL
import Derived.Test.YtnknnncehcofnaaGreatDoorJ31CopyS
import Derived.Test.YtnknnncehcofnaaGreatDoorJ2TakesW
namespace Go.Proofs.YtnknnncehcofnaaGreatDoor
open Go.RowKit

def MacZ (B m : Nat) (w : World) (s : StM) : Prop := ∃ own V C, Mac B m 0 noPr own w V C s
/-- .. with blocks that stay as they are -/
def MacY (pr : Pr) (B m : Nat) (w : World) (s : StM) : Prop := ∃ own V C, Mac B m 0 pr own w V C s
def MacZT (B m : Nat) (s' : StM) (v : Value) (w w' : World) (e : Ending) : Prop := e = .returned v ∧ MacZ B m w' s' ∧ Below B w w'

theorem Mac.zcell {B m : Nat} {pr : Pr} {own : Nat → Nat → Tag} {w : World} {V : Tag → Value} {C : Tag → List Value} {s : StM} (M : Mac B m 0 pr own w V C s) :
    w.cell? ⟨m, 0, none⟩ = some (V .fr) ∧ w.cell? ⟨m, 1, none⟩ = some (V .hp) ∧ w.cell? ⟨m, 2, none⟩ = some (V .out) ∧ w.cell? ⟨m, 3, none⟩ = some (.int .i64 s.fuel) ∧ w.cell? ⟨m, 4, none⟩ = some (.bool s.done) ∧ w.cell? ⟨m, 5, none⟩ = some (.int .i64 s.value) ∧ w.cell? ⟨m, 6, none⟩ = some (.int .i64 s.trap) := by
  have h := fun q hq => (M.cs q hq).1
  simp only [Nat.zero_add] at h
  exact ⟨h 0 (by omega), h 1 (by omega), h 2 (by omega), h 3 (by omega), h 4 (by omega), h 5 (by omega), h 6 (by omega)⟩
theorem Mac.zthaw {B m : Nat} {pr : Pr} {own : Nat → Nat → Tag} {w : World} {V : Tag → Value} {C : Tag → List Value} {s : StM} (M : Mac B m 0 pr own w V C s) (q : Nat) (hq : q < 7) : w.frozen? ⟨m, q, none⟩ = false := by
  have := (M.cs q hq).2
  rwa [Nat.zero_add] at this

theorem MacZ.below {B m : Nat} {w w' : World} {s : StM} (h : MacZ B m w s) (hb : Below w.heap.size w w') : MacZ B m w' s := by
  obtain ⟨own, V, C, M⟩ := h
  exact ⟨own, V, C, M.below hb⟩

set_option maxRecDepth 100000 in
set_option maxHeartbeats 1600000 in
theorem specTrap (B m : Nat) (s : StM) (t : Int) (w : World) (hM : MacZ B m w s) :
    Calls Tryz.prog 110 #[.pointer (some ⟨m, 0, none⟩), .int .i64 t] w fun e w' => MacZT B m ⟨[], s.heap, s.out, s.fuel, true, s.value, t⟩ (.tuple #[]) w w' e := by
  obtain ⟨own, V, C, M⟩ := hM
  have hB : B ≤ w.heap.size := Nat.le_of_lt (Nat.lt_of_le_of_lt M.base M.lt)
  obtain ⟨M1, b1⟩ := M.noFrames rfl (some ⟨w.heap.size, 0, none⟩)
  obtain ⟨M2, b2⟩ := M1.field (s' := ⟨[], s.heap, s.out, s.fuel, true, s.value, s.trap⟩) 4 (by omega) (.bool true) rfl rfl rfl rfl
  obtain ⟨M3, b3⟩ := M2.field (s' := ⟨[], s.heap, s.out, s.fuel, true, s.value, t⟩) 6 (by omega) (.int .i64 t) rfl rfl rfl rfl
  rw [Nat.zero_add] at M2 b2 M3 b3
  rw [Nat.zero_add] at M3 b3
  have hal : Below (((w.setCell ⟨m, 0, none⟩ (.slice (some ⟨w.heap.size, 0, none⟩) 0 0)).setCell ⟨m, 4, none⟩ (.bool true)).setCell ⟨m, 6, none⟩ (.int .i64 t)).heap.size (((w.setCell ⟨m, 0, none⟩ (.slice (some ⟨w.heap.size, 0, none⟩) 0 0)).setCell ⟨m, 4, none⟩ (.bool true)).setCell ⟨m, 6, none⟩ (.int .i64 t)) ((((w.setCell ⟨m, 0, none⟩ (.slice (some ⟨w.heap.size, 0, none⟩) 0 0)).setCell ⟨m, 4, none⟩ (.bool true)).setCell ⟨m, 6, none⟩ (.int .i64 t)).alloc (.cells #[] 110)) := (Below.refl _ _).alloc (Nat.le_refl _) _
  have H3 : Hid (MacZ B m ((((w.setCell ⟨m, 0, none⟩ (.slice (some ⟨w.heap.size, 0, none⟩) 0 0)).setCell ⟨m, 4, none⟩ (.bool true)).setCell ⟨m, 6, none⟩ (.int .i64 t)).alloc (.cells #[] 110)) ⟨[], s.heap, s.out, s.fuel, true, s.value, t⟩ ∧ Below B w ((((w.setCell ⟨m, 0, none⟩ (.slice (some ⟨w.heap.size, 0, none⟩) 0 0)).setCell ⟨m, 4, none⟩ (.bool true)).setCell ⟨m, 6, none⟩ (.int .i64 t)).alloc (.cells #[] 110))) := ⟨⟨_, _, _, M3.below hal⟩, (b1.trans (b2.trans b3)).trans (hal.mono (by simpa using hB))⟩
  obtain ⟨c0, -, -, -, c4, -, c6⟩ := M.zcell
  have f0 := M.zthaw 0 (by omega)
  have f4 := M.zthaw 4 (by omega)
  have f6 := M.zthaw 6 (by omega)
  have hm := M.lt
  obtain ⟨A, n, c, hv⟩ := (M.l.row .fr trivial).form
  rw [hv] at c0
  clear M M1 M2 M3 b1 b2 b3 hal hv
  go_enter Tryz.func110, Tryz.ntmps110
  go_wp2_with fail
  go_end0
  exact ⟨rfl, H3.out.1, H3.out.2⟩

set_option maxHeartbeats 1600000 in
theorem specGoes (x y z : Value) (s : StM) (w : World) : Calls Tryz.prog 55 #[stV x y z s] w fun e w' => e = .returned (.bool (goesM s)) ∧ Below w.heap.size w w' := by
  have Hb : Hid (∀ o, Below w.heap.size w (w.alloc o)) := fun o => (Below.refl _ _).alloc (Nat.le_refl _) _
  unfold stV goesM
  cases hd : s.done with
  | true =>
    go_enter Tryz.func55, Tryz.ntmps55
    go_wp2_with fail
    go_ret
    exact ⟨rfl, Hb.out _⟩
  | false =>
    by_cases h : 0 < s.fuel
    · have hq : decide (0 < s.fuel) = true := by simpa using h
      go_enter Tryz.func55, Tryz.ntmps55
      go_wp2_with fail
      go_ret
      exact ⟨by first | rfl | (rw [hq]; rfl) | simp [h], Hb.out _⟩
    · have hq : decide (0 < s.fuel) = false := by simpa using h
      go_enter Tryz.func55, Tryz.ntmps55
      go_wp2_with fail
      go_ret
      exact ⟨by first | rfl | (rw [hq]; rfl) | simp [h], Hb.out _⟩
end Go.Proofs.YtnknnncehcofnaaGreatDoor

namespace Go.Proofs.YtnknnncehcofnaaGreatDoor
open Go.RowKit

/-- numbers put on the last frame's stack -/
def PutAt (B m b off n : Nat) (low : List FrM) (g : FrM) (s : StM) (As : Option Addr) (k cs : Nat) (W : World) (l : List Int) : Prop :=
  ∀ (W' : World) (ad : Addr), Below W.heap.size W W' → (∀ j (h : j < l.length), W'.cell? (ad.add j) = some (.int .i64 l[j])) →
    ∃ b1 off1 cap1 w1, (Builtin.append_ #[28, 28] 28 #[.slice As k cs, .slice (some ad) l.length l.length]).run Tryz.prog W' = .ok (.slice (some ⟨b1, off1, none⟩) (k + l.length) cap1) w1 ∧
      ((∃ u, w1.cell? ⟨b, off + n * 4 + 3, none⟩ = some u) ∧ w1.frozen? ⟨b, off + n * 4 + 3, none⟩ = false ∧ b < w1.heap.size) ∧
      Hid (MacZ B m (w1.setCell ⟨b, off + n * 4 + 3, none⟩ (.slice (some ⟨b1, off1, none⟩) (k + l.length) cap1)) { s with frames := low ++ [⟨g.func, g.pc, g.locals, g.stack ++ l⟩] } ∧
        Below B W (w1.setCell ⟨b, off + n * 4 + 3, none⟩ (.slice (some ⟨b1, off1, none⟩) (k + l.length) cap1)))

theorem put_at {B m b off cap k cs : Nat} {own : Nat → Nat → Tag} {W : World} {V : Tag → Value} {C : Tag → List Value} {s : StM} {low : List FrM} {g : FrM} {As : Option Addr} (M : Mac B m 0 noPr own W V C s) (hs : s.frames = low ++ [g])
    (hf : V .fr = .slice (some ⟨b, off, none⟩) (low.length + 1) cap) (hk : g.stack.length = k) (h3 : W.cell? ⟨b, off + low.length * 4 + 3, none⟩ = some (.slice As k cs)) (hk2 : k ≤ 1048576) (l : List Int) (hl0 : 0 < l.length) (hl1 : l.length ≤ 1048576) :
    PutAt B m b off low.length low g s As k cs W l := by
  intro W' ad hb hx
  obtain ⟨b', off', cap', T⟩ := M.top hs
  have e := T.slice
  rw [hf] at e
  simp only [Value.slice.injEq, Option.some.injEq, Addr.mk.injEq, and_true] at e
  obtain ⟨⟨rfl, rfl⟩, -⟩ := e
  have hv : V (.stk low.length) = .slice As k cs := by
    have h := T.c3
    rw [h3] at h
    simpa using h.symm
  have tl := T.lt
  have f3 := T.f3
  obtain ⟨b1, off1, cap1, w1, hrun, ⟨hc, hfz⟩, hb1, own2, V2, C2, M2, hb2, -⟩ := (M.below hb).putTop hs (by omega) l hl0 hl1 ad l.length 28 hx hf
  rw [hv, hk] at hrun
  rw [hk] at M2 hb2
  have hB : B ≤ W.heap.size := Nat.le_of_lt (Nat.lt_of_le_of_lt M.base M.lt)
  exact ⟨b1, off1, cap1, w1, hrun, ⟨⟨_, by rw [hc, hb.cell (by exact tl)]; exact h3⟩, by rw [hfz, hb.frozen (by exact tl)]; exact f3, Nat.lt_of_lt_of_le tl (Nat.le_trans hb.size hb1.size)⟩, ⟨⟨own2, V2, C2, M2⟩, (hb.mono hB).trans hb2⟩⟩

/-- a number told -/
def OutAt (B m : Nat) (s : StM) (As : Option Addr) (k cs : Nat) (W : World) (x : Int) : Prop :=
  ∀ (W' : World) (ad : Addr), Below W.heap.size W W' → W'.cell? ad = some (.int .i64 x) →
    ∃ b1 off1 cap1 w1, (Builtin.append_ #[28, 28] 28 #[.slice As k cs, .slice (some ad) 1 1]).run Tryz.prog W' = .ok (.slice (some ⟨b1, off1, none⟩) (k + 1) cap1) w1 ∧
      ((∃ u, w1.cell? ⟨m, 2, none⟩ = some u) ∧ w1.frozen? ⟨m, 2, none⟩ = false ∧ m < w1.heap.size) ∧
      Hid (MacZ B m (w1.setCell ⟨m, 2, none⟩ (.slice (some ⟨b1, off1, none⟩) (k + 1) cap1)) { s with out := s.out ++ [x] } ∧ Below B W (w1.setCell ⟨m, 2, none⟩ (.slice (some ⟨b1, off1, none⟩) (k + 1) cap1)))

theorem out_at {B m : Nat} {own : Nat → Nat → Tag} {W : World} {V : Tag → Value} {C : Tag → List Value} {s : StM} (M : Mac B m 0 noPr own W V C s) (hk : s.out.length ≤ 1048576) (x : Int) :
    ∃ As cs, W.cell? ⟨m, 2, none⟩ = some (.slice As s.out.length cs) ∧ OutAt B m s As s.out.length cs W x := by
  obtain ⟨A, c, hv⟩ := M.outForm
  refine ⟨A, c, by rw [M.zcell.2.2.1, hv], ?_⟩
  intro W' ad hb hx
  obtain ⟨A', c', hv', b1, off1, cap1, w1, hrun, ⟨h1, h2, h3⟩, own2, V2, C2, M2, hb2⟩ := (M.below hb).outRun hk x ad 1 28 hx
  rw [hv] at hv'
  simp only [Value.slice.injEq] at hv'
  obtain ⟨rfl, -, rfl⟩ := hv'
  have hB : B ≤ W.heap.size := Nat.le_of_lt (Nat.lt_of_le_of_lt M.base M.lt)
  rw [Nat.zero_add] at h1 h2 M2 hb2
  exact ⟨b1, off1, cap1, w1, hrun, ⟨h1, h2, h3⟩, ⟨⟨own2, V2, C2, M2⟩, (hb.mono hB).trans hb2⟩⟩

theorem VRow.holds {w : World} {U g lo : Nat} {l : List Int} (h : VRow w g (ints l)) (hU : U ≤ g) (hl : l.length = lo) : Holds U w (.slice (some ⟨g, 0, none⟩) lo lo) (ints l) 1 :=
  ⟨_, lo, lo, rfl, Nat.le_refl _, by rw [ints_length, hl, Nat.mul_one], fun j hj => ⟨g, 0, rfl, hU, h.1, by rw [Nat.zero_add]; exact (h.2 j hj).1⟩⟩

theorem VRow.room {w : World} {U g lo : Nat} {l : List Int} {own : Nat → Nat → Tag} {t : Tag} (h : VRow w g (ints l)) (hU : U ≤ g) (hl : l.length = lo) (ho : ∀ j, own g j = t) : Room own U w (.slice (some ⟨g, 0, none⟩) lo lo) 1 t :=
  ⟨_, lo, lo, rfl, Nat.le_refl _, fun j hj => ⟨g, 0, rfl, hU, h.1, by rw [Nat.zero_add, (h.2 j (by rw [ints_length, hl]; omega)).1]; rfl, by rw [Nat.zero_add]; exact (h.2 j (by rw [ints_length, hl]; omega)).2, ho _⟩⟩

/-- a frame put on top -/
def FrmAt (B m : Nat) (s : StM) (A : Option Addr) (n c : Nat) (W : World) : Prop :=
  ∀ (W2 : World) (ad : Addr) (g lo : Nat) (k : Int) (l : List Int), Below W.heap.size W W2 → W.heap.size ≤ g → VRow W2 g (ints l) → l.length = lo →
    W2.cell? (ad.add 0) = some (.int .i64 k) → W2.cell? (ad.add 1) = some (.int .i64 0) → W2.cell? (ad.add 2) = some (.slice (some ⟨g, 0, none⟩) lo lo) → W2.cell? (ad.add 3) = some (.slice none 0 0) →
    ∃ b1 off1 cap1 w1, (Builtin.append_ #[43, 43] 43 #[.slice A n c, .slice (some ad) 1 1]).run Tryz.prog W2 = .ok (.slice (some ⟨b1, off1, none⟩) (n + 1) cap1) w1 ∧
      ((∃ u, w1.cell? ⟨m, 0, none⟩ = some u) ∧ w1.frozen? ⟨m, 0, none⟩ = false ∧ m < w1.heap.size) ∧
      Hid (MacZ B m (w1.setCell ⟨m, 0, none⟩ (.slice (some ⟨b1, off1, none⟩) (n + 1) cap1)) { s with frames := s.frames ++ [⟨k, 0, l, []⟩] } ∧ Below B W (w1.setCell ⟨m, 0, none⟩ (.slice (some ⟨b1, off1, none⟩) (n + 1) cap1)))

theorem frm_at {B m : Nat} {own : Nat → Nat → Tag} {W : World} {V : Tag → Value} {C : Tag → List Value} {s : StM} (M : Mac B m 0 noPr own W V C s) (hk : s.frames.length ≤ 1048575) :
    ∃ A c, W.cell? ⟨m, 0, none⟩ = some (.slice A s.frames.length c) ∧ FrmAt B m s A s.frames.length c W := by
  obtain ⟨A, c, hv⟩ : ∃ A c, V .fr = .slice A s.frames.length c := by
    have hlf := M.k.frames_len
    have h := M.l.row .fr trivial
    obtain ⟨A, n, c, hv⟩ := h.form
    have hl := (h.len hv).1
    simp only [szT] at hl
    obtain rfl : n = s.frames.length := by omega
    exact ⟨A, c, hv⟩
  refine ⟨A, c, by rw [M.zcell.1, hv], ?_⟩
  intro W2 ad g lo k l hb hg hV hl n0 n1 n2 n3
  obtain ⟨A', c', hv', b1, off1, cap1, w1, hrun, ⟨h1, h2, h3⟩, -, own2, V2, C2, M2, hb2⟩ := M.frameAdd (own2 := fun b _ => if b = g then .loc s.frames.length else .stk s.frames.length) rfl hk hb ⟨k, 0, l, []⟩ (some ⟨g, 0, none⟩) none lo lo 0 0
    (hV.holds hg hl) ⟨none, 0, 0, rfl, Nat.le_refl _, by simp [ints], fun j hj => absurd hj (by simp [ints])⟩ (hV.room hg hl fun _ => if_pos rfl) ⟨none, 0, 0, rfl, Nat.le_refl _, fun j hj => absurd hj (by omega)⟩ ad 43 n0 n1 n2 n3
  rw [hv] at hv'
  simp only [Value.slice.injEq] at hv'
  obtain ⟨rfl, -, rfl⟩ := hv'
  exact ⟨b1, off1, cap1, w1, hrun, ⟨h1, h2, h3⟩, ⟨⟨own2, V2, C2, M2⟩, hb2⟩⟩
end Go.Proofs.YtnknnncehcofnaaGreatDoor

namespace Go.Proofs.YtnknnncehcofnaaGreatDoor
open Go.RowKit

theorem umod64 (b : Int) : (IntKind.u64.wrap b).tmod 64 = b % 64 := by
  rw [IntKind.wrap_u64, tmod_of_emod]; omega

set_option maxHeartbeats 400000 in
theorem overZero (op a : Int) (w : World) :
    Calls Tryz.prog 212 #[.int .i64 op, .int .i64 a, .int .i64 0] w fun e w' => e = .returned (.agg #[.int .i64 0, .int .i64 11]) ∧ Below w.heap.size w w' := by
  go_enter Tryz.func212, Tryz.ntmps212
  go_wp2
  exact bodyPost_ret (v := .agg #[.int .i64 0, .int .i64 11]) (by simp [results, Tryz.results212, go_sem]) rfl ⟨rfl, (Below.refl _ _).alloc (Nat.le_refl _) _⟩

set_option maxHeartbeats 400000 in
theorem overDiv (a b : Int) (w : World) (hb : ¬ b = 0) :
    Calls Tryz.prog 212 #[.int .i64 13, .int .i64 a, .int .i64 b] w fun e w' => e = .returned (.agg #[.int .i64 (wrap64 (a.tdiv b)), .int .i64 0]) ∧ Below w.heap.size w w' := by
  by_cases h1 : b = -1
  · subst h1
    rw [show a.tdiv (-1) = -a by rw [Int.tdiv_neg, Int.tdiv_one]]
    go_enter Tryz.func212, Tryz.ntmps212
    go_wp2
    exact bodyPost_ret (v := .agg #[.int .i64 (wrap64 (-a)), .int .i64 0]) (by simp [results, Tryz.results212, go_sem]) rfl ⟨rfl, (Below.refl _ _).alloc (Nat.le_refl _) _⟩
  · go_enter Tryz.func212, Tryz.ntmps212
    go_wp2
    exact bodyPost_ret (v := .agg #[.int .i64 (wrap64 (a.tdiv b)), .int .i64 0]) (by simp [results, Tryz.results212, go_sem]) rfl ⟨rfl, (Below.refl _ _).alloc (Nat.le_refl _) _⟩

set_option maxHeartbeats 400000 in
theorem overRem (a b : Int) (w : World) (hb : ¬ b = 0) :
    Calls Tryz.prog 212 #[.int .i64 14, .int .i64 a, .int .i64 b] w fun e w' => e = .returned (.agg #[.int .i64 (a.tmod b), .int .i64 0]) ∧ Below w.heap.size w w' := by
  by_cases h1 : b = -1
  · subst h1
    rw [show a.tmod (-1) = 0 by rw [Int.tmod_neg, Int.tmod_one]]
    go_enter Tryz.func212, Tryz.ntmps212
    go_wp2
    exact bodyPost_ret (v := .agg #[.int .i64 0, .int .i64 0]) (by simp [results, Tryz.results212, go_sem]) rfl ⟨rfl, (Below.refl _ _).alloc (Nat.le_refl _) _⟩
  · go_enter Tryz.func212, Tryz.ntmps212
    go_wp2
    exact bodyPost_ret (v := .agg #[.int .i64 (a.tmod b), .int .i64 0]) (by simp [results, Tryz.results212, go_sem]) rfl ⟨rfl, (Below.refl _ _).alloc (Nat.le_refl _) _⟩

/-- what lay before a call that lays blocks alone, and the cell of the answer -/
theorem answer_cell {w w1 : World} {n t : Int} {T : TypeId} (hb : Below (w.heap.size + 1) (w.alloc (.cells #[.int .i64 n, .int .i64 t] T)) w1) :
    (w1.cell? ⟨w.heap.size, 0, none⟩ = some (.int .i64 n) ∧ w1.cell? ⟨w.heap.size, 1, none⟩ = some (.int .i64 t)) ∧ (w1.frozen? ⟨w.heap.size, 0, none⟩ = false ∧ w1.frozen? ⟨w.heap.size, 1, none⟩ = false) ∧ w.heap.size < w1.heap.size := by
  refine ⟨⟨?_, ?_⟩, ⟨?_, ?_⟩, ?_⟩
  · rw [hb.cell (by simp)]; simp
  · rw [hb.cell (by simp)]; simp
  · rw [hb.frozen (by simp)]; simp
  · rw [hb.frozen (by simp)]; simp
  · have := hb.size; simp at this; omega

theorem answer_below {w w1 : World} {o : Obj} (hb : Below (w.heap.size + 1) (w.alloc o) w1) (x y : Value) : Below w.heap.size w ((w1.setCell ⟨w.heap.size, 0, none⟩ x).setCell ⟨w.heap.size, 1, none⟩ y) :=
  ((((Below.refl _ _).alloc (Nat.le_refl _) _).trans (hb.mono (by omega))).setCell (by simp) _).setCell (by simp) _

set_option maxHeartbeats 400000 in
theorem spec10 (a b : Int) (w : World) :
    Calls Tryz.prog 171 #[.int .i64 10, .int .i64 a, .int .i64 b] w fun e w' => e = .returned (.agg #[.int .i64 (binN 10 a b), .int .i64 (binT 10 b)]) ∧ Below w.heap.size w w' := by
  have h2 : binT 10 b = 0 := by unfold binT; rw [if_neg (by omega)]
  rw [h2]
  rw [binN_10]
  go_enter Tryz.func171, Tryz.ntmps171
  go_wp2
  exact bodyPost_ret (v := .agg #[.int .i64 (wrap64 (a + b)), .int .i64 0]) (by simp [results, Tryz.results171, go_sem]) rfl ⟨rfl, (Below.refl _ _).alloc (Nat.le_refl _) _⟩

set_option maxHeartbeats 400000 in
theorem spec11 (a b : Int) (w : World) :
    Calls Tryz.prog 171 #[.int .i64 11, .int .i64 a, .int .i64 b] w fun e w' => e = .returned (.agg #[.int .i64 (binN 11 a b), .int .i64 (binT 11 b)]) ∧ Below w.heap.size w w' := by
  have h2 : binT 11 b = 0 := by unfold binT; rw [if_neg (by omega)]
  rw [h2]
  rw [binN_11]
  go_enter Tryz.func171, Tryz.ntmps171
  go_wp2
  exact bodyPost_ret (v := .agg #[.int .i64 (wrap64 (a - b)), .int .i64 0]) (by simp [results, Tryz.results171, go_sem]) rfl ⟨rfl, (Below.refl _ _).alloc (Nat.le_refl _) _⟩

set_option maxHeartbeats 400000 in
theorem spec12 (a b : Int) (w : World) :
    Calls Tryz.prog 171 #[.int .i64 12, .int .i64 a, .int .i64 b] w fun e w' => e = .returned (.agg #[.int .i64 (binN 12 a b), .int .i64 (binT 12 b)]) ∧ Below w.heap.size w w' := by
  have h2 : binT 12 b = 0 := by unfold binT; rw [if_neg (by omega)]
  rw [h2]
  rw [binN_12]
  go_enter Tryz.func171, Tryz.ntmps171
  go_wp2
  exact bodyPost_ret (v := .agg #[.int .i64 (wrap64 (a * b)), .int .i64 0]) (by simp [results, Tryz.results171, go_sem]) rfl ⟨rfl, (Below.refl _ _).alloc (Nat.le_refl _) _⟩

set_option maxHeartbeats 400000 in
theorem spec13 (a b : Int) (w : World) :
    Calls Tryz.prog 171 #[.int .i64 13, .int .i64 a, .int .i64 b] w fun e w' => e = .returned (.agg #[.int .i64 (binN 13 a b), .int .i64 (binT 13 b)]) ∧ Below w.heap.size w w' := by
  by_cases hb : b = 0
  · subst hb
    rw [binN_13z]
    go_enter Tryz.func171, Tryz.ntmps171
    go_wp2_with fail
    refine (overZero 13 a _).mono ?_
    rintro e w1 ⟨rfl, hb1⟩
    simp at hb1
    have Hb1 : Hid (Below (w.heap.size + 1) _ w1) := hb1
    obtain ⟨⟨c0, c1⟩, ⟨f0, f1⟩, hz⟩ := answer_cell hb1
    clear hb1
    go_wp2_with fail
    exact bodyPost_ret (v := .agg #[.int .i64 0, .int .i64 11]) (by simp [results, Tryz.results171, go_sem, c0, c1]) rfl ⟨rfl, answer_below Hb1.out _ _⟩
  · have h2 : binT 13 b = 0 := by unfold binT; rw [if_neg (by omega)]
    rw [h2, binN_13 hb]
    go_enter Tryz.func171, Tryz.ntmps171
    go_wp2_with fail
    refine (overDiv a b _ hb).mono ?_
    rintro e w1 ⟨rfl, hb1⟩
    simp at hb1
    have Hb1 : Hid (Below (w.heap.size + 1) _ w1) := hb1
    obtain ⟨⟨c0, c1⟩, ⟨f0, f1⟩, hz⟩ := answer_cell hb1
    clear hb1
    go_wp2_with fail
    exact bodyPost_ret (v := .agg #[.int .i64 (wrap64 (a.tdiv b)), .int .i64 0]) (by simp [results, Tryz.results171, go_sem, c0, c1]) rfl ⟨rfl, answer_below Hb1.out _ _⟩

set_option maxHeartbeats 400000 in
theorem spec14 (a b : Int) (w : World) :
    Calls Tryz.prog 171 #[.int .i64 14, .int .i64 a, .int .i64 b] w fun e w' => e = .returned (.agg #[.int .i64 (binN 14 a b), .int .i64 (binT 14 b)]) ∧ Below w.heap.size w w' := by
  by_cases hb : b = 0
  · subst hb
    rw [binN_14z]
    go_enter Tryz.func171, Tryz.ntmps171
    go_wp2_with fail
    refine (overZero 14 a _).mono ?_
    rintro e w1 ⟨rfl, hb1⟩
    simp at hb1
    have Hb1 : Hid (Below (w.heap.size + 1) _ w1) := hb1
    obtain ⟨⟨c0, c1⟩, ⟨f0, f1⟩, hz⟩ := answer_cell hb1
    clear hb1
    go_wp2_with fail
    exact bodyPost_ret (v := .agg #[.int .i64 0, .int .i64 11]) (by simp [results, Tryz.results171, go_sem, c0, c1]) rfl ⟨rfl, answer_below Hb1.out _ _⟩
  · have h2 : binT 14 b = 0 := by unfold binT; rw [if_neg (by omega)]
    rw [h2, binN_14 hb]
    go_enter Tryz.func171, Tryz.ntmps171
    go_wp2_with fail
    refine (overRem a b _ hb).mono ?_
    rintro e w1 ⟨rfl, hb1⟩
    simp at hb1
    have Hb1 : Hid (Below (w.heap.size + 1) _ w1) := hb1
    obtain ⟨⟨c0, c1⟩, ⟨f0, f1⟩, hz⟩ := answer_cell hb1
    clear hb1
    go_wp2_with fail
    exact bodyPost_ret (v := .agg #[.int .i64 (a.tmod b), .int .i64 0]) (by simp [results, Tryz.results171, go_sem, c0, c1]) rfl ⟨rfl, answer_below Hb1.out _ _⟩

set_option maxHeartbeats 400000 in
theorem spec15 (a b : Int) (w : World) :
    Calls Tryz.prog 171 #[.int .i64 15, .int .i64 a, .int .i64 b] w fun e w' => e = .returned (.agg #[.int .i64 (binN 15 a b), .int .i64 (binT 15 b)]) ∧ Below w.heap.size w w' := by
  have h2 : binT 15 b = 0 := by unfold binT; rw [if_neg (by omega)]
  rw [h2]
  rw [binN_15]
  go_enter Tryz.func171, Tryz.ntmps171
  go_wp2
  exact bodyPost_ret (v := .agg #[.int .i64 (bits .and .i64 a b), .int .i64 0]) (by simp [results, Tryz.results171, go_sem]) rfl ⟨rfl, (Below.refl _ _).alloc (Nat.le_refl _) _⟩

set_option maxHeartbeats 400000 in
theorem spec16 (a b : Int) (w : World) :
    Calls Tryz.prog 171 #[.int .i64 16, .int .i64 a, .int .i64 b] w fun e w' => e = .returned (.agg #[.int .i64 (binN 16 a b), .int .i64 (binT 16 b)]) ∧ Below w.heap.size w w' := by
  have h2 : binT 16 b = 0 := by unfold binT; rw [if_neg (by omega)]
  rw [h2]
  rw [binN_16]
  go_enter Tryz.func171, Tryz.ntmps171
  go_wp2
  exact bodyPost_ret (v := .agg #[.int .i64 (bits .or .i64 a b), .int .i64 0]) (by simp [results, Tryz.results171, go_sem]) rfl ⟨rfl, (Below.refl _ _).alloc (Nat.le_refl _) _⟩

set_option maxHeartbeats 400000 in
theorem spec17 (a b : Int) (w : World) :
    Calls Tryz.prog 171 #[.int .i64 17, .int .i64 a, .int .i64 b] w fun e w' => e = .returned (.agg #[.int .i64 (binN 17 a b), .int .i64 (binT 17 b)]) ∧ Below w.heap.size w w' := by
  have h2 : binT 17 b = 0 := by unfold binT; rw [if_neg (by omega)]
  rw [h2]
  rw [binN_17]
  go_enter Tryz.func171, Tryz.ntmps171
  go_wp2
  exact bodyPost_ret (v := .agg #[.int .i64 (bits .xor .i64 a b), .int .i64 0]) (by simp [results, Tryz.results171, go_sem]) rfl ⟨rfl, (Below.refl _ _).alloc (Nat.le_refl _) _⟩

set_option maxHeartbeats 400000 in
theorem spec18 (a b : Int) (w : World) :
    Calls Tryz.prog 171 #[.int .i64 18, .int .i64 a, .int .i64 b] w fun e w' => e = .returned (.agg #[.int .i64 (binN 18 a b), .int .i64 (binT 18 b)]) ∧ Below w.heap.size w w' := by
  have h2 : binT 18 b = 0 := by unfold binT; rw [if_neg (by omega)]
  rw [h2]
  have Hu : Hid ((IntKind.u64.wrap b).tmod 64 = b % 64) := umod64 b
  have hu0 : 0 ≤ (IntKind.u64.wrap b).tmod 64 := by rw [Hu.out]; omega
  have hu1 : (IntKind.u64.wrap b).tmod 64 ≤ 63 := by rw [Hu.out]; omega
  rw [binN_18, ← Hu.out]
  go_enter Tryz.func171, Tryz.ntmps171
  go_wp2
  exact bodyPost_ret (v := .agg #[.int .i64 (wrap64 (a * 2 ^ ((IntKind.u64.wrap b).tmod 64).toNat)), .int .i64 0]) (by simp [results, Tryz.results171, go_sem]) rfl ⟨rfl, (Below.refl _ _).alloc (Nat.le_refl _) _⟩

set_option maxHeartbeats 400000 in
theorem spec19 (a b : Int) (w : World) :
    Calls Tryz.prog 171 #[.int .i64 19, .int .i64 a, .int .i64 b] w fun e w' => e = .returned (.agg #[.int .i64 (binN 19 a b), .int .i64 (binT 19 b)]) ∧ Below w.heap.size w w' := by
  have h2 : binT 19 b = 0 := by unfold binT; rw [if_neg (by omega)]
  rw [h2]
  have Hu : Hid ((IntKind.u64.wrap b).tmod 64 = b % 64) := umod64 b
  have hu0 : 0 ≤ (IntKind.u64.wrap b).tmod 64 := by rw [Hu.out]; omega
  have hu1 : (IntKind.u64.wrap b).tmod 64 ≤ 63 := by rw [Hu.out]; omega
  rw [binN_19, ← Hu.out]
  go_enter Tryz.func171, Tryz.ntmps171
  go_wp2
  exact bodyPost_ret (v := .agg #[.int .i64 (a / 2 ^ ((IntKind.u64.wrap b).tmod 64).toNat), .int .i64 0]) (by simp [results, Tryz.results171, go_sem]) rfl ⟨rfl, (Below.refl _ _).alloc (Nat.le_refl _) _⟩

set_option maxHeartbeats 400000 in
theorem spec20 (a b : Int) (w : World) :
    Calls Tryz.prog 171 #[.int .i64 20, .int .i64 a, .int .i64 b] w fun e w' => e = .returned (.agg #[.int .i64 (binN 20 a b), .int .i64 (binT 20 b)]) ∧ Below w.heap.size w w' := by
  have h2 : binT 20 b = 0 := by unfold binT; rw [if_neg (by omega)]
  rw [h2]
  have Hu : Hid ((IntKind.u64.wrap b).tmod 64 = b % 64) := umod64 b
  have hu0 : 0 ≤ (IntKind.u64.wrap b).tmod 64 := by rw [Hu.out]; omega
  have hu1 : (IntKind.u64.wrap b).tmod 64 ≤ 63 := by rw [Hu.out]; omega
  rw [binN_20, ← Hu.out]
  go_enter Tryz.func171, Tryz.ntmps171
  go_wp2
  exact bodyPost_ret (v := .agg #[.int .i64 (wrap64 (IntKind.u64.wrap a / 2 ^ ((IntKind.u64.wrap b).tmod 64).toNat)), .int .i64 0]) (by simp [results, Tryz.results171, go_sem]) rfl ⟨rfl, (Below.refl _ _).alloc (Nat.le_refl _) _⟩

set_option maxHeartbeats 400000 in
theorem spec21 (a b : Int) (w : World) :
    Calls Tryz.prog 171 #[.int .i64 21, .int .i64 a, .int .i64 b] w fun e w' => e = .returned (.agg #[.int .i64 (binN 21 a b), .int .i64 (binT 21 b)]) ∧ Below w.heap.size w w' := by
  have h2 : binT 21 b = 0 := by unfold binT; rw [if_neg (by omega)]
  rw [h2]
  rw [binN_21]
  by_cases h : a < b
  · rw [if_pos h]
    go_enter Tryz.func171, Tryz.ntmps171
    go_wp2
    exact bodyPost_ret (v := .agg #[.int .i64 1, .int .i64 0]) (by simp [results, Tryz.results171, go_sem]) rfl ⟨rfl, (Below.refl _ _).alloc (Nat.le_refl _) _⟩
  · rw [if_neg h]
    go_enter Tryz.func171, Tryz.ntmps171
    go_wp2
    exact bodyPost_ret (v := .agg #[.int .i64 0, .int .i64 0]) (by simp [results, Tryz.results171, go_sem]) rfl ⟨rfl, (Below.refl _ _).alloc (Nat.le_refl _) _⟩

set_option maxHeartbeats 400000 in
theorem spec22 (a b : Int) (w : World) :
    Calls Tryz.prog 171 #[.int .i64 22, .int .i64 a, .int .i64 b] w fun e w' => e = .returned (.agg #[.int .i64 (binN 22 a b), .int .i64 (binT 22 b)]) ∧ Below w.heap.size w w' := by
  have h2 : binT 22 b = 0 := by unfold binT; rw [if_neg (by omega)]
  rw [h2]
  rw [binN_22]
  by_cases h : a ≤ b
  · rw [if_pos h]
    go_enter Tryz.func171, Tryz.ntmps171
    go_wp2
    exact bodyPost_ret (v := .agg #[.int .i64 1, .int .i64 0]) (by simp [results, Tryz.results171, go_sem]) rfl ⟨rfl, (Below.refl _ _).alloc (Nat.le_refl _) _⟩
  · rw [if_neg h]
    go_enter Tryz.func171, Tryz.ntmps171
    go_wp2
    exact bodyPost_ret (v := .agg #[.int .i64 0, .int .i64 0]) (by simp [results, Tryz.results171, go_sem]) rfl ⟨rfl, (Below.refl _ _).alloc (Nat.le_refl _) _⟩

set_option maxHeartbeats 400000 in
theorem spec23 (a b : Int) (w : World) :
    Calls Tryz.prog 171 #[.int .i64 23, .int .i64 a, .int .i64 b] w fun e w' => e = .returned (.agg #[.int .i64 (binN 23 a b), .int .i64 (binT 23 b)]) ∧ Below w.heap.size w w' := by
  have h2 : binT 23 b = 0 := by unfold binT; rw [if_neg (by omega)]
  rw [h2]
  rw [binN_23]
  by_cases h : a = b
  · rw [if_pos h]
    go_enter Tryz.func171, Tryz.ntmps171
    go_wp2
    exact bodyPost_ret (v := .agg #[.int .i64 1, .int .i64 0]) (by simp [results, Tryz.results171, go_sem]) rfl ⟨rfl, (Below.refl _ _).alloc (Nat.le_refl _) _⟩
  · rw [if_neg h]
    go_enter Tryz.func171, Tryz.ntmps171
    go_wp2
    exact bodyPost_ret (v := .agg #[.int .i64 0, .int .i64 0]) (by simp [results, Tryz.results171, go_sem]) rfl ⟨rfl, (Below.refl _ _).alloc (Nat.le_refl _) _⟩

set_option maxHeartbeats 400000 in
theorem specOut (op a b : Int) (w : World) (h : op < 10 ∨ 23 < op) :
    Calls Tryz.prog 171 #[.int .i64 op, .int .i64 a, .int .i64 b] w fun e w' => e = .returned (.agg #[.int .i64 0, .int .i64 0]) ∧ Below w.heap.size w w' := by
  go_enter Tryz.func171, Tryz.ntmps171
  go_wp2
  exact bodyPost_ret (v := .agg #[.int .i64 0, .int .i64 0]) (by simp [results, Tryz.results171, go_sem]) rfl ⟨rfl, (Below.refl _ _).alloc (Nat.le_refl _) _⟩

/-- spec.Binary -/
theorem specBinary (op a b : Int) (w : World) :
    Calls Tryz.prog 171 #[.int .i64 op, .int .i64 a, .int .i64 b] w fun e w' => e = .returned (.agg #[.int .i64 (binN op a b), .int .i64 (binT op b)]) ∧ Below w.heap.size w w' := by
  have hop : (op < 10 ∨ 23 < op) ∨ op = 10 ∨ op = 11 ∨ op = 12 ∨ op = 13 ∨ op = 14 ∨ op = 15 ∨ op = 16 ∨ op = 17 ∨ op = 18 ∨ op = 19 ∨ op = 20 ∨ op = 21 ∨ op = 22 ∨ op = 23 := by omega
  rcases hop with h | rfl | rfl | rfl | rfl | rfl | rfl | rfl | rfl | rfl | rfl | rfl | rfl | rfl | rfl
  · have h1 : binN op a b = 0 := binN_out a b h
    have h2 : binT op b = 0 := by unfold binT; rw [if_neg (by omega)]
    rw [h1, h2]
    exact specOut op a b w h
  · exact spec10 a b w
  · exact spec11 a b w
  · exact spec12 a b w
  · exact spec13 a b w
  · exact spec14 a b w
  · exact spec15 a b w
  · exact spec16 a b w
  · exact spec17 a b w
  · exact spec18 a b w
  · exact spec19 a b w
  · exact spec20 a b w
  · exact spec21 a b w
  · exact spec22 a b w
  · exact spec23 a b w
end Go.Proofs.YtnknnncehcofnaaGreatDoor
