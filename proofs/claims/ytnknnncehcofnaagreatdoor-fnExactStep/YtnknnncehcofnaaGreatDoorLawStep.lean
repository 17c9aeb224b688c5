/- laws.FnExactStep. -/
import Derived.Test.YtnknnncehcofnaaGreatDoorJ19StepL
import Derived.Test.YtnknnncehcofnaaGreatDoorStepI
import Derived.Test.YtnknnncehcofnaaGreatDoorSpStepS
import Derived.Test.YtnknnncehcofnaaGreatDoorJ26MacH
import Derived.Test.YtnknnncehcofnaaGreatDoorPrgThaw
import Derived.Test.YtnknnncehcofnaaGreatDoorJ47StKeep
import Derived.Deep.RegionHeld3
import Derived.Test.YtnknnncehcofnaaGreatDoorStToO
import Derived.Test.YtnknnncehcofnaaGreatDoorJ1OpTab
import Derived.Test.YtnknnncehcofnaaGreatDoorJ49PrgEq
import Derived.Test.YtnknnncehcofnaaGreatDoorJ14Marks
import Derived.Test.YtnknnncehcofnaaGreatDoorJ28ArgsS
namespace Go.Proofs.YtnknnncehcofnaaGreatDoor
open Go.RowKit

theorem toStateA {B : Nat} (x y z : Value) (s : StM) (w : World) (hr : StRow B w x y z s) (hn : s.bulk ≤ 1048576) :
    Calls Tryz.prog 17 #[.agg #[x, y, z, .int .i64 s.fuel, .bool s.done, .int .i64 s.value, .int .i64 s.trap]] w fun e w' => ∃ A c D d E f, e = .returned (.agg #[.slice A s.frames.length c, .slice D s.heap.length d, .slice E s.out.length f, .int .i64 s.fuel, .bool s.done, .int .i64 s.value, .int .i64 s.trap]) ∧ StRow w.heap.size w' (.slice A s.frames.length c) (.slice D s.heap.length d) (.slice E s.out.length f) s ∧ Below w.heap.size w w' := by
  refine Calls.mono (toState x y z s w hr hn) ?_
  rintro e w' ⟨x', y', z', rfl, hP, hb⟩
  obtain ⟨A, c, rfl⟩ := hP.1.form
  obtain ⟨D, d, rfl⟩ := hP.2.1.form
  obtain ⟨E, f, rfl⟩ := hP.2.2.form
  exact ⟨A, c, D, d, E, f, rfl, hP, hb⟩

theorem toPrgA {B : Nat} (v : Value) (p : List FnM) (w : World) (hr : FnRow B w v p) (hn : bulk p ≤ 1048576) :
    Calls Tryz.prog 16 #[.agg #[v]] w fun e w' => ∃ A c, e = .returned (.agg #[.slice A p.length c]) ∧ FnRow w.heap.size w' (.slice A p.length c) p ∧ Below w.heap.size w w' := by
  refine Calls.mono (toPrg v p w hr hn) ?_
  rintro e w' ⟨v', rfl, hP, hb⟩
  obtain ⟨A, c, rfl⟩ := hP.form
  exact ⟨A, c, rfl, hP, hb⟩

theorem bel_drew {w1 X : World} (h : Below w1.heap.size w1 X) : Below w1.heap.size w1 X.drew := h.drew
theorem bel_alloc {w1 X : World} {o : Obj} (h : Below w1.heap.size w1 X) : Below w1.heap.size w1 (X.alloc o) := h.alloc h.size _
theorem bel_set {w1 X : World} {b j : Nat} {u : Value} (h : Below w1.heap.size w1 X) (hb : w1.heap.size ≤ b) : Below w1.heap.size w1 (X.setCell ⟨b, j, none⟩ u) := h.setCell hb _
theorem bel_step {w1 X Y : World} (h : Below w1.heap.size w1 X) (k : Below X.heap.size X Y) : Below w1.heap.size w1 Y := h.trans (k.mono h.size)
theorem fn_drew {X : World} {v : Value} {p : List FnM} (h : FnRow 0 X v p) : FnRow 0 X.drew v p := h.below (Below.refl _ _).drew
theorem fn_alloc {X : World} {v : Value} {p : List FnM} {o : Obj} (h : FnRow 0 X v p) : FnRow 0 (X.alloc o) v p := h.below ((Below.refl _ _).alloc (Nat.le_refl _) _)
theorem fn_call {X Y : World} {v : Value} {p : List FnM} (h : FnRow 0 X v p) (k : Below X.heap.size X Y) : FnRow 0 Y v p := h.below k
theorem sr_drew {X : World} {x y z : Value} {s : StM} (h : StRow 0 X x y z s) : StRow 0 X.drew x y z s := h.below (Below.refl _ _).drew
theorem sr_alloc {X : World} {x y z : Value} {s : StM} {o : Obj} (h : StRow 0 X x y z s) : StRow 0 (X.alloc o) x y z s := h.below ((Below.refl _ _).alloc (Nat.le_refl _) _)
theorem sr_call {X Y : World} {x y z : Value} {s : StM} (h : StRow 0 X x y z s) (k : Below X.heap.size X Y) : StRow 0 Y x y z s := h.below k
theorem vr_drew {X : World} {b : Nat} {l : List Value} (h : VRow X b l) : VRow X.drew b l := h.below (Below.refl _ _).drew
theorem vr_call {X Y : World} {b : Nat} {l : List Value} (h : VRow X b l) (k : Below X.heap.size X Y) : VRow Y b l := h.below k
theorem StRow.low0 {B : Nat} {X Y : World} {x y z : Value} {s : StM} (h : StRow B X x y z s) (k : Below X.heap.size X Y) : StRow 0 Y x y z s := StRow.below (B := 0) ⟨h.1.lower (Nat.zero_le _), h.2.1.lower (Nat.zero_le _), h.2.2.lower (Nat.zero_le _)⟩ k
theorem alB (w : World) (o : Obj) : Below w.heap.size w (w.alloc o) := (Below.refl _ _).alloc (Nat.le_refl _) _

theorem specStepSA (vp x y z : Value) (p : List FnM) (s : StM) (w : World) (ht : Tab w) (hr : FnRow 0 w vp p) (hp : ∀ g ∈ p, g.ok) (hs : StRow 0 w x y z s) (hok : s.ok) (hn : s.bulk ≤ 1048576) :
    Calls Tryz.prog 15 #[.agg #[vp], .agg #[x, y, z, .int .i64 s.fuel, .bool s.done, .int .i64 s.value, .int .i64 s.trap]] w fun e w' => ∃ A1 a1 A2 a2 A3 a3 s', e = .returned (.agg #[.slice A1 s'.frames.length a1, .slice A2 s'.heap.length a2, .slice A3 s'.out.length a3, .int .i64 s'.fuel, .bool s'.done, .int .i64 s'.value, .int .i64 s'.trap]) ∧ StRow w.heap.size w' (.slice A1 s'.frames.length a1) (.slice A2 s'.heap.length a2) (.slice A3 s'.out.length a3) s' ∧ StepIs p s s' ∧ Small s' ∧ Below w.heap.size w w' := by
  refine Calls.mono (specStepS vp x y z p s w ht hr hp hs hok hn) ?_
  rintro e w' ⟨x', y', z', own, X, Y, Z, s', rfl, hO, h1, h2, h3⟩
  have hR := hO.stRow
  obtain ⟨A1, a1, rfl⟩ := hR.1.form
  obtain ⟨A2, a2, rfl⟩ := hR.2.1.form
  obtain ⟨A3, a3, rfl⟩ := hR.2.2.form
  exact ⟨A1, a1, A2, a2, A3, a3, s', rfl, hR, h1, h2, h3⟩

theorem sum_mul {α : Type} (f : α → Nat) (m : Nat) : ∀ (l : List α), (∀ x ∈ l, f x ≤ m) → (l.map f).sum ≤ l.length * m
  | [], _ => by simp
  | x :: l, h => by
    have h1 := h x (by simp)
    have h2 := sum_mul f m l (fun y hy => h y (by simp [hy]))
    simp only [List.map_cons, List.sum_cons, List.length_cons, Nat.add_mul, Nat.one_mul]
    omega

theorem cnt_bulk (s : StM) (h : s.bulk ≤ 1048576) : cntS s ≤ 4000000 ∧ s.frames.length ≤ 1048576 ∧ s.heap.length ≤ 1048576 := by
  have hm : ∀ (l : List FrM), (l.map fun f : FrM => 2 + f.bulk).sum = 2 * l.length + (l.map FrM.bulk).sum := fun l => by
    induction l with
    | nil => rfl
    | cons f l ih => simp only [List.map_cons, List.sum_cons, List.length_cons, ih]; omega
  unfold StM.bulk bulkF bulkH at h
  refine ⟨?_, by omega, by omega⟩
  unfold cntS cntF cntH
  rw [hm]
  omega

theorem cnt_right {p : List FnM} {s : StM} (h : StRightI p s) : cntS s ≤ 4000000 ∧ s.frames.length ≤ 1048576 ∧ s.heap.length ≤ 1048576 := by
  obtain ⟨h1, h2, ⟨h3, h4⟩, h5⟩ := h.short
  refine ⟨?_, by omega, by omega⟩
  have a := sum_mul (fun f : FrM => 2 + f.bulk) 18 s.frames (fun f hf => by
    obtain ⟨i, hi, e⟩ := List.getElem_of_mem hf
    have := h1 i hi
    rw [e] at this
    unfold FrM.bulk
    omega)
  have b := sum_mul List.length 50 s.heap (fun f hf => by
    obtain ⟨i, hi, e⟩ := List.getElem_of_mem hf
    have := h4 i hi
    rw [e] at this
    exact this)
  unfold cntS cntF cntH
  omega

theorem stepIs_cnt {p : List FnM} {s s' : StM} (h : StepIs p s s') (hb : s.bulk ≤ 1048576) : cntS s' ≤ 4000000 ∧ s'.frames.length ≤ 1048576 ∧ s'.heap.length ≤ 1048576 := by
  rcases h with ⟨h1, h2, rfl⟩ | ⟨_, rfl⟩
  · exact cnt_right (stepM_right h1 h2)
  · exact cnt_bulk _ hb

/-- a state's seven cells in a block -/
def SBox (w : World) (b : Nat) (x y z : Value) (s : StM) : Prop := VRow w b [x, y, z, .int .i64 s.fuel, .bool s.done, .int .i64 s.value, .int .i64 s.trap]
theorem SBox.below {w w' : World} {b : Nat} {x y z : Value} {s : StM} (h : SBox w b x y z s) (hb : Below w.heap.size w w') : SBox w' b x y z s := VRow.below h hb
theorem SBox.cells {w : World} {b : Nat} {x y z : Value} {s : StM} (h : SBox w b x y z s) : b < w.heap.size ∧ w.cell? ⟨b, 0, none⟩ = some x ∧ w.cell? ⟨b, 1, none⟩ = some y ∧ w.cell? ⟨b, 2, none⟩ = some z ∧ w.cell? ⟨b, 3, none⟩ = some (.int .i64 s.fuel) ∧ w.cell? ⟨b, 4, none⟩ = some (.bool s.done) ∧ w.cell? ⟨b, 5, none⟩ = some (.int .i64 s.value) ∧ w.cell? ⟨b, 6, none⟩ = some (.int .i64 s.trap) :=
  ⟨h.1, (h.2 0 (by simp)).1, (h.2 1 (by simp)).1, (h.2 2 (by simp)).1, (h.2 3 (by simp)).1, (h.2 4 (by simp)).1, (h.2 5 (by simp)).1, (h.2 6 (by simp)).1⟩
theorem StRow.setLow {B : Nat} {w : World} {x y z : Value} {s : StM} (h : StRow B w x y z s) {q : Addr} (hq : q.block < B) (u : Value) : StRow B (w.setCell q u) x y z s := ⟨h.1.set hq u, h.2.1.set hq u, h.2.2.set hq u⟩

theorem implStepSA (vp x y z : Value) (p : List FnM) (s : StM) (w : World) (ht : Tab w) (hr : FnRow 0 w vp p) (_hp : ∀ g ∈ p, g.ok) (hs : StRow 0 w x y z s) (hok : s.ok) (hn : s.bulk ≤ 1048576) :
    Calls Tryz.prog 18 #[.agg #[vp], .agg #[x, y, z, .int .i64 s.fuel, .bool s.done, .int .i64 s.value, .int .i64 s.trap]] w fun e w' => ∃ A1 a1 A2 a2 A3 a3 s', e = .returned (.agg #[.slice A1 s'.frames.length a1, .slice A2 s'.heap.length a2, .slice A3 s'.out.length a3, .int .i64 s'.fuel, .bool s'.done, .int .i64 s'.value, .int .i64 s'.trap]) ∧ StRow w.heap.size w' (.slice A1 s'.frames.length a1) (.slice A2 s'.heap.length a2) (.slice A3 s'.out.length a3) s' ∧ StepIs p s s' ∧ Small s' ∧ Below w.heap.size w w' := by
  refine Calls.mono (implStepS vp x y z p s w ht hr hs hok hn) ?_
  rintro e w' ⟨x', y', z', own, X, Y, Z, s', rfl, hO, h1, h2, h3⟩
  have hR := hO.stRow
  obtain ⟨A1, a1, rfl⟩ := hR.1.form
  obtain ⟨A2, a2, rfl⟩ := hR.2.1.form
  obtain ⟨A3, a3, rfl⟩ := hR.2.2.form
  exact ⟨A1, a1, A2, a2, A3, a3, s', rfl, hR, h1, h2, h3⟩

def W0Told (p : List FnM) (t : StM) (w1 wc : World) (q : Value) : Prop := ∃ b A1 a1 A2 a2 A3 a3 s', q = .pointer (some ⟨b, 0, none⟩) ∧ SBox wc b (.slice A1 s'.frames.length a1) (.slice A2 s'.heap.length a2) (.slice A3 s'.out.length a3) s' ∧ StRow 0 wc (.slice A1 s'.frames.length a1) (.slice A2 s'.heap.length a2) (.slice A3 s'.out.length a3) s' ∧ StepIs p t s' ∧ Small s' ∧ Below w1.heap.size w1 wc

theorem w0_after {p : List FnM} {t s' : StM} {w1 wT : World} {n : Nat} {A1 A2 A3 : Option Addr} {a1 a2 a3 : Nat} (hS : StRow n wT (.slice A1 s'.frames.length a1) (.slice A2 s'.heap.length a2) (.slice A3 s'.out.length a3) s') (hst : StepIs p t s') (hsm : Small s') (hb : Below w1.heap.size w1 wT) (ty : TypeId) :
    W0Told p t w1 (wT.alloc (.cells #[.slice A1 s'.frames.length a1, .slice A2 s'.heap.length a2, .slice A3 s'.out.length a3, .int .i64 s'.fuel, .bool s'.done, .int .i64 s'.value, .int .i64 s'.trap] ty)) (.pointer (some ⟨wT.heap.size, 0, none⟩)) :=
  ⟨_, A1, a1, A2, a2, A3, a3, s', rfl, vrow_new wT _ ty, hS.low0 (alB _ _), hst, hsm, hb.alloc hb.size _⟩

theorem w0_before {p : List FnM} {t s' : StM} {w1 wT : World} {n R : Nat} {A1 A2 A3 : Option Addr} {a1 a2 a3 : Nat} (hV : VRow wT R [.slice none 0 0, .slice none 0 0, .slice none 0 0, .int .i64 0, .bool false, .int .i64 0, .int .i64 0]) (hn : R < n) (hR : w1.heap.size ≤ R)
    (hS : StRow n wT (.slice A1 s'.frames.length a1) (.slice A2 s'.heap.length a2) (.slice A3 s'.out.length a3) s') (hst : StepIs p t s') (hsm : Small s') (hb : Below w1.heap.size w1 wT) :
    W0Told p t w1 (((((((wT.setCell ⟨R, 0, none⟩ (.slice A1 s'.frames.length a1)).setCell ⟨R, 1, none⟩ (.slice A2 s'.heap.length a2)).setCell ⟨R, 2, none⟩ (.slice A3 s'.out.length a3)).setCell ⟨R, 3, none⟩ (.int .i64 s'.fuel)).setCell ⟨R, 4, none⟩ (.bool s'.done)).setCell ⟨R, 5, none⟩ (.int .i64 s'.value)).setCell ⟨R, 6, none⟩ (.int .i64 s'.trap)) (.pointer (some ⟨R, 0, none⟩)) := by
  have h7 := ((((((hV.set_at 0 (.slice A1 s'.frames.length a1) (by simp)).set_at 1 (.slice A2 s'.heap.length a2) (by simp)).set_at 2 (.slice A3 s'.out.length a3) (by simp)).set_at 3 (.int .i64 s'.fuel) (by simp)).set_at 4 (.bool s'.done) (by simp)).set_at 5 (.int .i64 s'.value) (by simp)).set_at 6 (.int .i64 s'.trap) (by simp)
  simp only [List.set_cons_succ, List.set_cons_zero] at h7
  have hS7 := ((((((hS.setLow (by exact hn) (q := ⟨R, 0, none⟩) (.slice A1 s'.frames.length a1)).setLow (by exact hn) (q := ⟨R, 1, none⟩) (.slice A2 s'.heap.length a2)).setLow (by exact hn) (q := ⟨R, 2, none⟩) (.slice A3 s'.out.length a3)).setLow (by exact hn) (q := ⟨R, 3, none⟩) (.int .i64 s'.fuel)).setLow (by exact hn) (q := ⟨R, 4, none⟩) (.bool s'.done)).setLow (by exact hn) (q := ⟨R, 5, none⟩) (.int .i64 s'.value)).setLow (by exact hn) (q := ⟨R, 6, none⟩) (.int .i64 s'.trap)
  exact ⟨R, A1, a1, A2, a2, A3, a3, s', rfl, h7, hS7.low0 (Below.refl _ _), hst, hsm, ((((((hb.setCell hR _).setCell hR _).setCell hR _).setCell hR _).setCell hR _).setCell hR _).setCell hR _⟩

set_option maxRecDepth 100000 in
set_option maxHeartbeats 12800000 in
theorem lawExactStep (v0 v1 : Value) (w : World) (i0 : IsProgram w v0) (i1 : IsState w v1) (tab : Tab w) :
    Calls Tryz.prog 4 #[v0, v1] w fun e w' => e = .returned (.bool true) ∧ Below w.heap.size w w' := by
  obtain ⟨v, p, rfl, hr, hok⟩ := i0
  obtain ⟨x', y', z', t, rfl, ht, hokt⟩ := i1
  obtain ⟨A, cap, rfl⟩ := hr.form
  obtain ⟨D1, d1, rfl⟩ := ht.1.form
  obtain ⟨D2, d2, rfl⟩ := ht.2.1.form
  obtain ⟨D3, d3, rfl⟩ := ht.2.2.form
  have Hr : Hid (FnRow 0 w (.slice A p.length cap) p) := hr
  have Hs : Hid (StRow 0 w (.slice D1 t.frames.length d1) (.slice D2 t.heap.length d2) (.slice D3 t.out.length d3) t) := ht
  have Ht : Hid (Tab w) := tab
  have Hok : Hid (∀ g ∈ p, g.ok) := hok
  have Hokt : Hid t.ok := hokt
  clear hr ht tab hok hokt
  unfold stV
  obtain ⟨x0, x1, x2⟩ := boxes_new w #[.slice A p.length cap] #[.slice D1 t.frames.length d1, .slice D2 t.heap.length d2, .slice D3 t.out.length d3, .int .i64 t.fuel, .bool t.done, .int .i64 t.value, .int .i64 t.trap] 36 40
  have X0 : Hid (Box _ w.heap.size #[.slice A p.length cap]) := x0
  have X1 : Hid (StBox _ (w.heap.size + 1) (.slice D1 t.frames.length d1) (.slice D2 t.heap.length d2) (.slice D3 t.out.length d3) t) := x1
  have X2 : Hid (Below w.heap.size w _) := x2
  clear x0 x1 x2
  go_enter Tryz.func4, Tryz.ntmps4
  go_wp2_with fail
  refine (szPrg _ p 1048576 _ (Hr.out.below X2.out) (by omega) (by omega)).mono ?_
  rintro e w1 ⟨rfl, hb1⟩
  have Hb1 : Hid (Below w.heap.size w w1) := X2.out.trans (hb1.mono X2.out.size)
  have Hk : Hid (∀ w', Below w1.heap.size w1 w' → (w'.cell? ⟨w.heap.size, 0, none⟩ = some (.slice A p.length cap) ∧ w.heap.size < w'.heap.size) ∧ StBox w' (w.heap.size + 1) (.slice D1 t.frames.length d1) (.slice D2 t.heap.length d2) (.slice D3 t.out.length d3) t ∧ FnRow 0 w' (.slice A p.length cap) p ∧ StRow 0 w' (.slice D1 t.frames.length d1) (.slice D2 t.heap.length d2) (.slice D3 t.out.length d3) t ∧ Tab w') := by
    intro w' h
    have b0 := (X0.out.below hb1).below h
    exact ⟨⟨b0.at0, b0.1⟩, (X1.out.below hb1).below h, (Hr.out.below Hb1.out).below h, (Hs.out.below Hb1.out).below h, (Ht.out.below Hb1.out).below h⟩
  clear hb1 X0 X1 X2 Hr Hs Ht
  obtain ⟨e7, e0, e1, e2, e3, e4, e5, e6⟩ := (Hk.out w1 (Below.refl _ _)).2.1.cells
  by_cases hc : bulk p ≤ 1048576
  case neg =>
    rw [show less 1048576 (bulk p) = -1 by unfold less; rw [if_neg (by omega)]]
    go_wp2_with fail
    go_ret
    exact ⟨rfl, Hb1.out⟩
  rw [show less 1048576 (bulk p) = 1048576 - bulk p by unfold less; rw [if_pos (by omega)]]
  go_wp2_with fail
  refine (szState (.slice D1 t.frames.length d1) (.slice D2 t.heap.length d2) (.slice D3 t.out.length d3) t _ _ (Hk.out w1 (Below.refl _ _)).2.2.2.1 (by omega) (by omega)).mono ?_
  rintro e w2 ⟨rfl, hb2⟩
  have Hb2 : Hid (Below w1.heap.size w1 w2) := hb2
  clear hb2 e7 e0 e1 e2 e3 e4 e5 e6
  by_cases hd : (t.bulk : Int) ≤ 1048576 - bulk p
  case neg =>
    rw [show less (1048576 - (bulk p : Int)) t.bulk = -1 by unfold less; rw [if_neg (by omega)]]
    go_wp2_with fail
    go_ret
    exact ⟨rfl, Hb1.out.trans (Hb2.out.mono Hb1.out.size)⟩
  rw [show less (1048576 - (bulk p : Int)) t.bulk = 1048576 - bulk p - t.bulk by unfold less; rw [if_pos (by omega)]]
  have hd' : t.bulk ≤ 1048576 := by omega
  obtain ⟨c0, c1⟩ := (Hk.out w2 Hb2.out).1
  obtain ⟨e7, e0, e1, e2, e3, e4, e5, e6⟩ := (Hk.out w2 Hb2.out).2.1.cells
  go_upto_region 8 with fail
  go_cut [6] (fun q wc => W0Told p t w1 wc q)
  case first =>
    have hB0 : Below w1.heap.size w1 w2 := Hb2.out
    have HPa : Hid (∀ X, Below w1.heap.size w1 X → Calls Tryz.prog 16 #[.agg #[.slice A p.length cap]] X fun e w' => ∃ P1 p1, e = .returned (.agg #[.slice P1 p.length p1]) ∧ FnRow 0 w' (.slice P1 p.length p1) p ∧ Below X.heap.size X w') := fun X hX => (toPrgA (.slice A p.length cap) p X (Hk.out X hX).2.2.1 hc).mono (by rintro e w' ⟨P1, p1, h1, h2, h3⟩; exact ⟨P1, p1, h1, h2.lower (Nat.zero_le _), h3⟩)
    have HQa : Hid (∀ X, Below w1.heap.size w1 X → Calls Tryz.prog 17 #[.agg #[.slice D1 t.frames.length d1, .slice D2 t.heap.length d2, .slice D3 t.out.length d3, .int .i64 t.fuel, .bool t.done, .int .i64 t.value, .int .i64 t.trap]] X fun e w' => ∃ Q1 q1 Q2 q2 Q3 q3, e = .returned (.agg #[.slice Q1 t.frames.length q1, .slice Q2 t.heap.length q2, .slice Q3 t.out.length q3, .int .i64 t.fuel, .bool t.done, .int .i64 t.value, .int .i64 t.trap]) ∧ StRow 0 w' (.slice Q1 t.frames.length q1) (.slice Q2 t.heap.length q2) (.slice Q3 t.out.length q3) t ∧ Below X.heap.size X w') := fun X hX => (toStateA (.slice D1 t.frames.length d1) (.slice D2 t.heap.length d2) (.slice D3 t.out.length d3) t X (Hk.out X hX).2.2.2.1 hd').mono (by rintro e w' ⟨Q1, q1, Q2, q2, Q3, q3, h1, h2, h3⟩; exact ⟨Q1, q1, Q2, q2, Q3, q3, h1, ⟨h2.1.lower (Nat.zero_le _), h2.2.1.lower (Nat.zero_le _), h2.2.2.lower (Nat.zero_le _)⟩, h3⟩)
    have HSS : Hid (∀ w', Below w1.heap.size w1 w' → w'.cell? ⟨w.heap.size, 0, none⟩ = some (.slice A p.length cap) ∧ w'.cell? ⟨w.heap.size + 1, 0, none⟩ = some (.slice D1 t.frames.length d1) ∧ w'.cell? ⟨w.heap.size + 1, 1, none⟩ = some (.slice D2 t.heap.length d2) ∧ w'.cell? ⟨w.heap.size + 1, 2, none⟩ = some (.slice D3 t.out.length d3) ∧ w'.cell? ⟨w.heap.size + 1, 3, none⟩ = some (.int .i64 t.fuel) ∧ w'.cell? ⟨w.heap.size + 1, 4, none⟩ = some (.bool t.done) ∧ w'.cell? ⟨w.heap.size + 1, 5, none⟩ = some (.int .i64 t.value) ∧ w'.cell? ⟨w.heap.size + 1, 6, none⟩ = some (.int .i64 t.trap)) := fun w' h => by
      obtain ⟨⟨k0, _⟩, k1, _⟩ := Hk.out w' h
      obtain ⟨_, m0, m1, m2, m3, m4, m5, m6⟩ := k1.cells
      exact ⟨k0, m0, m1, m2, m3, m4, m5, m6⟩
    have HFa : Hid (∀ X P1 p1 Q1 q1 Q2 q2 Q3 q3, Below w1.heap.size w1 X → FnRow 0 X (.slice P1 p.length p1) p → StRow 0 X (.slice Q1 t.frames.length q1) (.slice Q2 t.heap.length q2) (.slice Q3 t.out.length q3) t → Calls Tryz.prog 15 #[.agg #[.slice P1 p.length p1], .agg #[.slice Q1 t.frames.length q1, .slice Q2 t.heap.length q2, .slice Q3 t.out.length q3, .int .i64 t.fuel, .bool t.done, .int .i64 t.value, .int .i64 t.trap]] X fun e w' => ∃ A1 a1 A2 a2 A3 a3 s', e = .returned (.agg #[.slice A1 s'.frames.length a1, .slice A2 s'.heap.length a2, .slice A3 s'.out.length a3, .int .i64 s'.fuel, .bool s'.done, .int .i64 s'.value, .int .i64 s'.trap]) ∧ StRow X.heap.size w' (.slice A1 s'.frames.length a1) (.slice A2 s'.heap.length a2) (.slice A3 s'.out.length a3) s' ∧ StepIs p t s' ∧ Small s' ∧ Below X.heap.size X w') := fun X P1 p1 Q1 q1 Q2 q2 Q3 q3 hX hP hQ => specStepSA _ _ _ _ p t X (Hk.out X hX).2.2.2.2 hP Hok.out hQ Hokt.out hd'
    refine wp_region_held_drew (S := fun w' => w'.cell? ⟨w.heap.size, 0, none⟩ = some (.slice A p.length cap) ∧ w'.cell? ⟨w.heap.size + 1, 0, none⟩ = some (.slice D1 t.frames.length d1) ∧ w'.cell? ⟨w.heap.size + 1, 1, none⟩ = some (.slice D2 t.heap.length d2) ∧ w'.cell? ⟨w.heap.size + 1, 2, none⟩ = some (.slice D3 t.out.length d3) ∧ w'.cell? ⟨w.heap.size + 1, 3, none⟩ = some (.int .i64 t.fuel) ∧ w'.cell? ⟨w.heap.size + 1, 4, none⟩ = some (.bool t.done) ∧ w'.cell? ⟨w.heap.size + 1, 5, none⟩ = some (.int .i64 t.value) ∧ w'.cell? ⟨w.heap.size + 1, 6, none⟩ = some (.int .i64 t.trap)) (by kernel_rfl) (HSS.out _ hB0.drew) (fun hHeld => ?_)
    refine wpAnyH_take (i := 0) (v := ?v1) rfl (by kernel_rfl) (by kernel_rfl) (by kernel_rfl) (fun _ _ _ h => h) (Or.inl ⟨by rfl, ?h1⟩) (by assumption) ?r1
    case h1 => (intro wS hSw; (try dsimp only at hSw); go_simp; try with_reducible rfl)
    case r1 =>
      simp only [Act.put, List.setIfInBounds_toArray]
      refine wpAnyH_take (i := 2) (v := ?v2) rfl (by kernel_rfl) (by kernel_rfl) (by kernel_rfl) (fun _ _ _ h => h) (Or.inl ⟨by rfl, ?h2⟩) (by assumption) ?r2
      case h2 => (intro wS hSw; (try dsimp only at hSw); go_simp; try with_reducible rfl)
      case r2 =>
        try simp only [Act.put]
        refine wpAnyH_ready (rs := [1, 5]) (by kernel_rfl) (by simp) ?_
        refine AllReadyH.cons rfl (fun K hK => ?_) (AllReadyH.cons rfl (fun K hK => ?_) AllReadyH.nil)
        · go_simp
          refine Calls.mono (HPa.out _ hB0.drew) ?_
          rintro e wP ⟨P1, p1, rfl, hP, hbP0⟩
          have hbP := bel_step hB0.drew hbP0
          go_wp2_with fail
          refine hK.out _ _ ?_ (fun hHeld3 => ?_)
          · exact HSS.out _ hbP
          clear hK K
          try simp only [Act.put]
          refine wpAnyH_ready (rs := [3, 5]) (by kernel_rfl) (by simp) ?_
          refine AllReadyH.cons rfl (fun K hK => ?_) (AllReadyH.cons rfl (fun K hK => ?_) AllReadyH.nil)
          · go_simp
            refine Calls.mono (HQa.out _ hbP) ?_
            rintro e wQ ⟨Q1, q1, Q2, q2, Q3, q3, rfl, hQ, hbQ0⟩
            have hbQ := bel_step hbP hbQ0
            go_wp2_with fail
            refine hK.out _ _ ?_ (fun hHeld4 => ?_)
            · exact HSS.out _ hbQ
            clear hK K
            try simp only [Act.put]
            refine wpAnyH_ready (rs := [4, 5]) (by kernel_rfl) (by simp) ?_
            refine AllReadyH.cons rfl (fun K hK => ?_) (AllReadyH.cons rfl (fun K hK => ?_) AllReadyH.nil)
            · go_simp
              refine Calls.mono (HFa.out _ P1 p1 Q1 q1 Q2 q2 Q3 q3 hbQ (hP.below hbQ0) hQ) ?_
              rintro e wT ⟨A1, a1, A2, a2, A3, a3, s', rfl, hS, hst, hsm, hbT0⟩
              have hbT := bel_step hbQ hbT0
              go_wp2_with fail
              refine hK.out _ _ ?_ (fun hHeld5 => ?_)
              · exact HSS.out _ hbT
              clear hK K
              try simp only [Act.put]
              refine wpAnyH_ready (rs := [5]) (by kernel_rfl) (by simp) ?_
              refine AllReadyH.cons rfl (fun K hK => ?_) AllReadyH.nil
              · go_simp
                refine hK.out _ _ ?_ (fun hHeld7 => ?_)
                · exact HSS.out _ (hbT.alloc hbT.size (.cells #[.slice none 0 0, .slice none 0 0, .slice none 0 0, .int .i64 0, .bool false, .int .i64 0, .int .i64 0] 45))
                clear hK K
                try simp only [Act.put]
                refine wpAnyH_ready (rs := [6]) (by kernel_rfl) (by simp) ?_
                refine AllReadyH.cons rfl (fun K hK => ?_) AllReadyH.nil
                · go_simp
                  refine hK.out _ _ ?_ (fun hHeldZ => ?_)
                  · exact HSS.out _ (by (repeat (first | with_reducible assumption | with_reducible refine bel_set ?_ (by first | exact hbT.size | exact hbP.size | exact hbQ.size | exact hB0.size) | with_reducible refine bel_alloc ?_)); first | done | fail)
                  clear hK K
                  refine wpAnyH_done (by kernel_rfl) ?_ _
                  go_wp2_with fail
                  go_meet
                  exact w0_after hS hst hsm hbT _
            · go_simp
              refine hK.out _ _ ?_ (fun hHeld9 => ?_)
              · exact HSS.out _ (hbQ.alloc hbQ.size (.cells #[.slice none 0 0, .slice none 0 0, .slice none 0 0, .int .i64 0, .bool false, .int .i64 0, .int .i64 0] 45))
              clear hK K
              try simp only [Act.put]
              refine wpAnyH_ready (rs := [4]) (by kernel_rfl) (by simp) ?_
              refine AllReadyH.cons rfl (fun K hK => ?_) AllReadyH.nil
              · go_simp
                refine Calls.mono (HFa.out _ P1 p1 Q1 q1 Q2 q2 Q3 q3 (hbQ.alloc hbQ.size (.cells #[.slice none 0 0, .slice none 0 0, .slice none 0 0, .int .i64 0, .bool false, .int .i64 0, .int .i64 0] 45)) ((hP.below hbQ0).below (alB _ _)) (hQ.below (alB _ _))) ?_
                rintro e wT ⟨A1, a1, A2, a2, A3, a3, s', rfl, hS, hst, hsm, hbT0⟩
                have hbT := bel_step (hbQ.alloc hbQ.size (.cells #[.slice none 0 0, .slice none 0 0, .slice none 0 0, .int .i64 0, .bool false, .int .i64 0, .int .i64 0] 45)) hbT0
                have hV8 := (vrow_new _ #[.slice none 0 0, .slice none 0 0, .slice none 0 0, .int .i64 0, .bool false, .int .i64 0, .int .i64 0] 45).below hbT0
                obtain ⟨n0, k0⟩ := hV8.2 0 (by simp)
                obtain ⟨n1, k1⟩ := hV8.2 1 (by simp)
                obtain ⟨n2, k2⟩ := hV8.2 2 (by simp)
                obtain ⟨n3, k3⟩ := hV8.2 3 (by simp)
                obtain ⟨n4, k4⟩ := hV8.2 4 (by simp)
                obtain ⟨n5, k5⟩ := hV8.2 5 (by simp)
                obtain ⟨n6, k6⟩ := hV8.2 6 (by simp)
                have nz := hV8.1
                simp only [List.getElem_cons_succ, List.getElem_cons_zero] at n0 n1 n2 n3 n4 n5 n6
                go_wp2_with fail
                refine hK.out _ _ ?_ (fun hHeld10 => ?_)
                · exact HSS.out _ hbT
                clear hK K
                try simp only [Act.put]
                refine wpAnyH_ready (rs := [6]) (by kernel_rfl) (by simp) ?_
                refine AllReadyH.cons rfl (fun K hK => ?_) AllReadyH.nil
                · go_simp
                  refine hK.out _ _ ?_ (fun hHeldZ => ?_)
                  · exact HSS.out _ (by (repeat (first | with_reducible assumption | with_reducible refine bel_set ?_ (by first | exact hbT.size | exact hbP.size | exact hbQ.size | exact hB0.size) | with_reducible refine bel_alloc ?_)); first | done | fail)
                  clear hK K
                  refine wpAnyH_done (by kernel_rfl) ?_ _
                  go_wp2_with fail
                  go_meet
                  exact w0_before hV8 (by first | (simp; done) | (have h1 := hbQ0.size; simp at h1; omega) | (have h1 := hbP0.size; simp at h1; omega) | (have h1 := hbQ0.size; have h2 := hbP0.size; simp at h1 h2; omega)) (by first | exact hbQ.size | exact hbP.size | exact hB0.size) hS hst hsm hbT
          · go_simp
            refine hK.out _ _ ?_ (fun hHeld12 => ?_)
            · exact HSS.out _ (hbP.alloc hbP.size (.cells #[.slice none 0 0, .slice none 0 0, .slice none 0 0, .int .i64 0, .bool false, .int .i64 0, .int .i64 0] 45))
            clear hK K
            try simp only [Act.put]
            refine wpAnyH_ready (rs := [3]) (by kernel_rfl) (by simp) ?_
            refine AllReadyH.cons rfl (fun K hK => ?_) AllReadyH.nil
            · go_simp
              refine Calls.mono (HQa.out _ (hbP.alloc hbP.size (.cells #[.slice none 0 0, .slice none 0 0, .slice none 0 0, .int .i64 0, .bool false, .int .i64 0, .int .i64 0] 45))) ?_
              rintro e wQ ⟨Q1, q1, Q2, q2, Q3, q3, rfl, hQ, hbQ0⟩
              have hbQ := bel_step (hbP.alloc hbP.size (.cells #[.slice none 0 0, .slice none 0 0, .slice none 0 0, .int .i64 0, .bool false, .int .i64 0, .int .i64 0] 45)) hbQ0
              go_wp2_with fail
              refine hK.out _ _ ?_ (fun hHeld13 => ?_)
              · exact HSS.out _ hbQ
              clear hK K
              try simp only [Act.put]
              refine wpAnyH_ready (rs := [4]) (by kernel_rfl) (by simp) ?_
              refine AllReadyH.cons rfl (fun K hK => ?_) AllReadyH.nil
              · go_simp
                refine Calls.mono (HFa.out _ P1 p1 Q1 q1 Q2 q2 Q3 q3 hbQ ((hP.below (alB _ _)).below hbQ0) hQ) ?_
                rintro e wT ⟨A1, a1, A2, a2, A3, a3, s', rfl, hS, hst, hsm, hbT0⟩
                have hbT := bel_step hbQ hbT0
                have hV8 := ((vrow_new _ #[.slice none 0 0, .slice none 0 0, .slice none 0 0, .int .i64 0, .bool false, .int .i64 0, .int .i64 0] 45).below hbQ0).below hbT0
                obtain ⟨n0, k0⟩ := hV8.2 0 (by simp)
                obtain ⟨n1, k1⟩ := hV8.2 1 (by simp)
                obtain ⟨n2, k2⟩ := hV8.2 2 (by simp)
                obtain ⟨n3, k3⟩ := hV8.2 3 (by simp)
                obtain ⟨n4, k4⟩ := hV8.2 4 (by simp)
                obtain ⟨n5, k5⟩ := hV8.2 5 (by simp)
                obtain ⟨n6, k6⟩ := hV8.2 6 (by simp)
                have nz := hV8.1
                simp only [List.getElem_cons_succ, List.getElem_cons_zero] at n0 n1 n2 n3 n4 n5 n6
                go_wp2_with fail
                refine hK.out _ _ ?_ (fun hHeld14 => ?_)
                · exact HSS.out _ hbT
                clear hK K
                try simp only [Act.put]
                refine wpAnyH_ready (rs := [6]) (by kernel_rfl) (by simp) ?_
                refine AllReadyH.cons rfl (fun K hK => ?_) AllReadyH.nil
                · go_simp
                  refine hK.out _ _ ?_ (fun hHeldZ => ?_)
                  · exact HSS.out _ (by (repeat (first | with_reducible assumption | with_reducible refine bel_set ?_ (by first | exact hbT.size | exact hbP.size | exact hbQ.size | exact hB0.size) | with_reducible refine bel_alloc ?_)); first | done | fail)
                  clear hK K
                  refine wpAnyH_done (by kernel_rfl) ?_ _
                  go_wp2_with fail
                  go_meet
                  exact w0_before hV8 (by first | (simp; done) | (have h1 := hbQ0.size; simp at h1; omega) | (have h1 := hbP0.size; simp at h1; omega) | (have h1 := hbQ0.size; have h2 := hbP0.size; simp at h1 h2; omega)) (by first | exact hbQ.size | exact hbP.size | exact hB0.size) hS hst hsm hbT
        · go_simp
          refine hK.out _ _ ?_ (fun hHeld16 => ?_)
          · exact HSS.out _ (hB0.alloc hB0.size (.cells #[.slice none 0 0, .slice none 0 0, .slice none 0 0, .int .i64 0, .bool false, .int .i64 0, .int .i64 0] 45)).drew
          clear hK K
          try simp only [Act.put]
          refine wpAnyH_ready (rs := [1]) (by kernel_rfl) (by simp) ?_
          refine AllReadyH.cons rfl (fun K hK => ?_) AllReadyH.nil
          · go_simp
            refine Calls.mono (HPa.out _ (hB0.alloc hB0.size (.cells #[.slice none 0 0, .slice none 0 0, .slice none 0 0, .int .i64 0, .bool false, .int .i64 0, .int .i64 0] 45)).drew) ?_
            rintro e wP ⟨P1, p1, rfl, hP, hbP0⟩
            have hbP := bel_step (hB0.alloc hB0.size (.cells #[.slice none 0 0, .slice none 0 0, .slice none 0 0, .int .i64 0, .bool false, .int .i64 0, .int .i64 0] 45)).drew hbP0
            go_wp2_with fail
            refine hK.out _ _ ?_ (fun hHeld17 => ?_)
            · exact HSS.out _ hbP
            clear hK K
            try simp only [Act.put]
            refine wpAnyH_ready (rs := [3]) (by kernel_rfl) (by simp) ?_
            refine AllReadyH.cons rfl (fun K hK => ?_) AllReadyH.nil
            · go_simp
              refine Calls.mono (HQa.out _ hbP) ?_
              rintro e wQ ⟨Q1, q1, Q2, q2, Q3, q3, rfl, hQ, hbQ0⟩
              have hbQ := bel_step hbP hbQ0
              go_wp2_with fail
              refine hK.out _ _ ?_ (fun hHeld18 => ?_)
              · exact HSS.out _ hbQ
              clear hK K
              try simp only [Act.put]
              refine wpAnyH_ready (rs := [4]) (by kernel_rfl) (by simp) ?_
              refine AllReadyH.cons rfl (fun K hK => ?_) AllReadyH.nil
              · go_simp
                refine Calls.mono (HFa.out _ P1 p1 Q1 q1 Q2 q2 Q3 q3 hbQ (hP.below hbQ0) hQ) ?_
                rintro e wT ⟨A1, a1, A2, a2, A3, a3, s', rfl, hS, hst, hsm, hbT0⟩
                have hbT := bel_step hbQ hbT0
                have hV8 := ((((vrow_new w2 #[.slice none 0 0, .slice none 0 0, .slice none 0 0, .int .i64 0, .bool false, .int .i64 0, .int .i64 0] 45).below (Below.refl _ _).drew).below hbP0).below hbQ0).below hbT0
                obtain ⟨n0, k0⟩ := hV8.2 0 (by simp)
                obtain ⟨n1, k1⟩ := hV8.2 1 (by simp)
                obtain ⟨n2, k2⟩ := hV8.2 2 (by simp)
                obtain ⟨n3, k3⟩ := hV8.2 3 (by simp)
                obtain ⟨n4, k4⟩ := hV8.2 4 (by simp)
                obtain ⟨n5, k5⟩ := hV8.2 5 (by simp)
                obtain ⟨n6, k6⟩ := hV8.2 6 (by simp)
                have nz := hV8.1
                simp only [List.getElem_cons_succ, List.getElem_cons_zero] at n0 n1 n2 n3 n4 n5 n6
                go_wp2_with fail
                refine hK.out _ _ ?_ (fun hHeld19 => ?_)
                · exact HSS.out _ hbT
                clear hK K
                try simp only [Act.put]
                refine wpAnyH_ready (rs := [6]) (by kernel_rfl) (by simp) ?_
                refine AllReadyH.cons rfl (fun K hK => ?_) AllReadyH.nil
                · go_simp
                  refine hK.out _ _ ?_ (fun hHeldZ => ?_)
                  · exact HSS.out _ (by (repeat (first | with_reducible assumption | with_reducible refine bel_set ?_ (by first | exact hbT.size | exact hbP.size | exact hbQ.size | exact hB0.size) | with_reducible refine bel_alloc ?_)); first | done | fail)
                  clear hK K
                  refine wpAnyH_done (by kernel_rfl) ?_ _
                  go_wp2_with fail
                  go_meet
                  exact w0_before hV8 (by first | (simp; done) | (have h1 := hbQ0.size; simp at h1; omega) | (have h1 := hbP0.size; simp at h1; omega) | (have h1 := hbQ0.size; have h2 := hbP0.size; simp at h1 h2; omega)) (by first | exact hbQ.size | exact hbP.size | exact hB0.size) hS hst hsm hbT
  case rest =>
    obtain ⟨bw, A1, a1, A2, a2, A3, a3, s', rfl, bBW, bRW, hst, hsm, hbc⟩ := hcut
    obtain ⟨w5, hw5⟩ : ∃ x, x = wc := ⟨_, rfl⟩
    rw [← hw5] at bBW bRW hbc ⊢
    clear hw5
    have Hst : Hid (StepIs p t s') := hst
    have Hsmall : Hid (Small s') := hsm
    have Hcnt : Hid (cntS s' ≤ 4000000 ∧ s'.frames.length ≤ 1048576 ∧ s'.heap.length ≤ 1048576) := stepIs_cnt hst hd'
    have Hb5 : Hid (Below w1.heap.size w1 w5) := hbc
    have BW : Hid (SBox w5 bw (.slice A1 s'.frames.length a1) (.slice A2 s'.heap.length a2) (.slice A3 s'.out.length a3) s') := bBW
    have RW : Hid (StRow 0 w5 (.slice A1 s'.frames.length a1) (.slice A2 s'.heap.length a2) (.slice A3 s'.out.length a3) s') := bRW
    have H5 : Hid (∀ W, Below w5.heap.size w5 W → (W.cell? ⟨w.heap.size, 0, none⟩ = some (.slice A p.length cap) ∧ w.heap.size < W.heap.size) ∧ StBox W (w.heap.size + 1) (.slice D1 t.frames.length d1) (.slice D2 t.heap.length d2) (.slice D3 t.out.length d3) t ∧ FnRow 0 W (.slice A p.length cap) p ∧ StRow 0 W (.slice D1 t.frames.length d1) (.slice D2 t.heap.length d2) (.slice D3 t.out.length d3) t ∧ Tab W ∧ SBox W bw (.slice A1 s'.frames.length a1) (.slice A2 s'.heap.length a2) (.slice A3 s'.out.length a3) s' ∧ StRow 0 W (.slice A1 s'.frames.length a1) (.slice A2 s'.heap.length a2) (.slice A3 s'.out.length a3) s') := by
      intro W h
      obtain ⟨g1, g2, g3, g4, g5⟩ := Hk.out W (Hb5.out.trans (h.mono Hb5.out.size))
      exact ⟨g1, g2, g3, g4, g5, BW.out.below h, RW.out.below h⟩
    have Hw5 : Hid (Below w.heap.size w w5) := Hb1.out.trans (Hb5.out.mono Hb1.out.size)
    clear hst hsm hbc bBW bRW BW RW Hb2 c0 c1 e0 e1 e2 e3 e4 e5 e6 e7
    obtain ⟨⟨c0, c1⟩, -⟩ := H5.out w5 (Below.refl _ _)
    go_wp2_with fail
    clear c0 c1
    refine (toPrgT _ p _ (H5.out _ (Below.refl _ _)).2.2.1 hc).mono ?_
    rintro e w6 ⟨vX, rfl, hX, hb6, hth, Bf, hBf, hMk⟩
    obtain ⟨AX, capX, rfl⟩ := hX.form
    obtain ⟨w7, hw7⟩ : ∃ w7, w7 = w6.alloc (.cells #[.slice AX p.length capX] 25) := ⟨_, rfl⟩
    have hal7 : Below w6.heap.size w6 w7 := by rw [hw7]; exact (Below.refl _ _).alloc (Nat.le_refl _) _
    have Hb7 : Hid (Below w5.heap.size w5 w7) := hb6.trans (hal7.mono hb6.size)
    have BX : Hid (Box w7 w6.heap.size #[.slice AX p.length capX]) := by rw [hw7]; exact box_new w6 _ 25
    have HX : Hid (FnRow 0 w7 (.slice AX p.length capX) p) := (hX.lower (Nat.zero_le _)).below hal7
    have HMk : Hid (MarkRow Bf w6.heap.size w7 (.slice AX p.length capX) p) := hMk.below hal7
    have Hfr : Hid (∀ b j, Bf ≤ b → b < w6.heap.size → w7.frozen? ⟨b, j, none⟩ = false) := fun b j h1 h2 => (hth.up hBf).below hal7 b j h1 h2
    have H67 : Hid (w7.heap.size = w6.heap.size + 1) := by show w7.heap.size = _; rw [hw7]; simp
    clear hX hth hMk hal7
    obtain ⟨e7, e0, e1, e2, e3, e4, e5, e6⟩ := (H5.out w6 hb6).2.1.cells
    clear hb6
    go_wp2_with fail
    rw [← hw7]
    clear hw7 e0 e1 e2 e3 e4 e5 e6 e7
    refine Calls.mono (R := fun e w' => ToSTold t w7 w' e) (toStateO _ _ _ t w7 (H5.out _ Hb7.out).2.2.2.1 hd') ?_
    rintro e w8 ⟨x', y', z', own1, FX, FY, FZ, rfl, hO1, hb8⟩
    obtain ⟨X1, x1, rfl⟩ := hO1.stRow.1.form
    obtain ⟨X2, x2, rfl⟩ := hO1.stRow.2.1.form
    obtain ⟨X3, x3, rfl⟩ := hO1.stRow.2.2.form
    unfold stV
    obtain ⟨w9, hw9⟩ : ∃ w9, w9 = w8.alloc (.cells #[.slice X1 t.frames.length x1, .slice X2 t.heap.length x2, .slice X3 t.out.length x3, .int .i64 t.fuel, .bool t.done, .int .i64 t.value, .int .i64 t.trap] 45) := ⟨_, rfl⟩
    have hal9 : Below w8.heap.size w8 w9 := by rw [hw9]; exact (Below.refl _ _).alloc (Nat.le_refl _) _
    have hb79 : Below w7.heap.size w7 w9 := hb8.trans (hal9.mono hb8.size)
    have h78 : w7.heap.size ≤ w8.heap.size := hb8.size
    have Hb9 : Hid (Below w5.heap.size w5 w9) := Hb7.out.trans (hb79.mono Hb7.out.size)
    have HX9 : Hid (Box w9 w6.heap.size #[.slice AX p.length capX] ∧ FnRow 0 w9 (.slice AX p.length capX) p ∧ MarkRow Bf w6.heap.size w9 (.slice AX p.length capX) p ∧ (∀ b j, Bf ≤ b → b < w6.heap.size → w9.frozen? ⟨b, j, none⟩ = false)) := ⟨BX.out.below hb79, HX.out.below hb79, HMk.out.below hb79, fun b j h1 h2 => by rw [hb79.frozen (by have := H67.out; show b < w7.heap.size; omega)]; exact Hfr.out b j h1 h2⟩
    have HI9 : Hid (StBox w9 w8.heap.size (.slice X1 t.frames.length x1) (.slice X2 t.heap.length x2) (.slice X3 t.out.length x3) t ∧ OwnSt (cutOwn w8.heap.size own1) w7.heap.size w9 (.slice X1 t.frames.length x1) (.slice X2 t.heap.length x2) (.slice X3 t.out.length x3) t FX FY FZ) := ⟨by rw [hw9]; exact stBox_new w8 _ _ _ t 45, hO1.cut.below hal9⟩
    have H89 : Hid (w9.heap.size = w8.heap.size + 1) := by show w9.heap.size = _; rw [hw9]; simp
    have d0 := (BX.out.below hb8).at0
    have d1 := (BX.out.below hb8).1
    have hB := implStepS (.slice AX p.length capX) (.slice X1 t.frames.length x1) (.slice X2 t.heap.length x2) (.slice X3 t.out.length x3) p t w9 (H5.out _ Hb9.out).2.2.2.2.1 HX9.out.2.1 (HI9.out.2.stRow.low0 (Below.refl _ _)) Hokt.out hd'
    unfold stV at hB
    have HBi : Hid (Calls Tryz.prog 18 #[.agg #[.slice AX p.length capX], .agg #[.slice X1 t.frames.length x1, .slice X2 t.heap.length x2, .slice X3 t.out.length x3, .int .i64 t.fuel, .bool t.done, .int .i64 t.value, .int .i64 t.trap]] w9 fun e w' => StepTold p t w9 w' e) := hB
    clear hB hO1 hb8 hal9 hb79 BX HX HMk Hfr
    go_wp2_with fail
    rw [← hw9]
    clear d0 d1 hw9
    refine Calls.mono (R := fun e w' => StepTold p t w9 w' e) HBi.out ?_
    rintro e w10 ⟨xg, yg, zg, own, GX, GY, GZ, s2, rfl, hown, hst2, -, hb10⟩
    obtain rfl : s2 = s' := hst2.unique Hst.out
    obtain ⟨G1, g1, rfl⟩ := hown.stRow.1.form
    obtain ⟨G2, g2, rfl⟩ := hown.stRow.2.1.form
    obtain ⟨G3, g3, rfl⟩ := hown.stRow.2.2.form
    unfold stV
    have Hb10 : Hid (Below w5.heap.size w5 w10) := Hb9.out.trans (hb10.mono Hb9.out.size)
    have h910 : w9.heap.size ≤ w10.heap.size := hb10.size
    obtain ⟨w11, hw11⟩ : ∃ w11, w11 = w10.alloc (.cells #[.slice G1 s2.frames.length g1, .slice G2 s2.heap.length g2, .slice G3 s2.out.length g3, .int .i64 s2.fuel, .bool s2.done, .int .i64 s2.value, .int .i64 s2.trap] 45) := ⟨_, rfl⟩
    have hal : Below w10.heap.size w10 w11 := by rw [hw11]; exact (Below.refl _ _).alloc (Nat.le_refl _) _
    have hb911 : Below w9.heap.size w9 w11 := hb10.trans (hal.mono hb10.size)
    have Hb11 : Hid (Below w5.heap.size w5 w11) := Hb10.out.trans (hal.mono Hb10.out.size)
    have BG : Hid (StBox w11 w10.heap.size (.slice G1 s2.frames.length g1) (.slice G2 s2.heap.length g2) (.slice G3 s2.out.length g3) s2) := by rw [hw11]; exact stBox_new w10 _ _ _ s2 45
    have OG : Hid (OwnSt (cutOwn w10.heap.size own) w9.heap.size w11 (.slice G1 s2.frames.length g1) (.slice G2 s2.heap.length g2) (.slice G3 s2.out.length g3) s2 GX GY GZ) := hown.cut.below hal
    have H1011 : Hid (w11.heap.size = w10.heap.size + 1) := by show w11.heap.size = _; rw [hw11]; simp
    have HJ : Hid (∀ W, Below w11.heap.size w11 W → StBox W w10.heap.size (.slice G1 s2.frames.length g1) (.slice G2 s2.heap.length g2) (.slice G3 s2.out.length g3) s2 ∧ OwnSt (cutOwn w10.heap.size own) w9.heap.size W (.slice G1 s2.frames.length g1) (.slice G2 s2.heap.length g2) (.slice G3 s2.out.length g3) s2 GX GY GZ ∧ (Box W w6.heap.size #[.slice AX p.length capX] ∧ FnRow 0 W (.slice AX p.length capX) p ∧ MarkRow Bf w6.heap.size W (.slice AX p.length capX) p ∧ (∀ b j, Bf ≤ b → b < w6.heap.size → W.frozen? ⟨b, j, none⟩ = false)) ∧ (StBox W w8.heap.size (.slice X1 t.frames.length x1) (.slice X2 t.heap.length x2) (.slice X3 t.out.length x3) t ∧ OwnSt (cutOwn w8.heap.size own1) w7.heap.size W (.slice X1 t.frames.length x1) (.slice X2 t.heap.length x2) (.slice X3 t.out.length x3) t FX FY FZ) ∧ Below w5.heap.size w5 W) := by
      intro W h
      have h9W := hb911.trans (h.mono hb911.size)
      exact ⟨BG.out.below h, OG.out.below h, ⟨HX9.out.1.below h9W, HX9.out.2.1.below h9W, HX9.out.2.2.1.below h9W, fun b j h1 h2 => by rw [h9W.frozen (by have := H67.out; have := H89.out; show b < w9.heap.size; omega)]; exact HX9.out.2.2.2 b j h1 h2⟩, ⟨HI9.out.1.below h9W, HI9.out.2.below h9W⟩, Hb11.out.trans (h.mono Hb11.out.size)⟩
    clear hst2 hown hb10 hal hb911 HBi OG BG
    obtain ⟨z7, e0, e1, e2, e3, e4, e5, e6⟩ := (H5.out w10 Hb10.out).2.2.2.2.2.1.cells
    go_wp2_with fail
    rw [← hw11]
    clear hw11 e0 e1 e2 e3 e4 e5 e6 z7
    refine (eqState (.slice G1 s2.frames.length g1) (.slice G2 s2.heap.length g2) (.slice G3 s2.out.length g3) (.slice A1 s2.frames.length a1) (.slice A2 s2.heap.length a2) (.slice A3 s2.out.length a3) s2 _ (HJ.out _ (Below.refl _ _)).2.1.stRow (H5.out _ Hb11.out).2.2.2.2.2.2).mono ?_
    rintro e w12 ⟨rfl, hb12⟩
    have Hb12 : Hid (Below w11.heap.size w11 w12) := hb12
    have H512 : Hid (Below w5.heap.size w5 w12) := Hb11.out.trans (hb12.mono Hb11.out.size)
    clear hb12
    obtain ⟨⟨c0, c1⟩, -⟩ := H5.out w12 H512.out
    have d0 := (HJ.out w12 Hb12.out).2.2.1.1.at0
    have d1 := (HJ.out w12 Hb12.out).2.2.1.1.1
    go_upto_region 14 with fail
    go_cut [44] from 40 to 44 (fun q wd => q = .bool false ∧ Below w11.heap.size w11 wd)
    case first =>
      go_region_with (first
        | (go_at_call 16; refine (toPrgA (.slice A p.length cap) p _ (H5.out _ H512.out.drew).2.2.1 hc).mono ?_; rintro e wP ⟨R1, r1, rfl, hP, hbP⟩
           have hbP' := Hb12.out.drew.trans (hbP.mono Hb12.out.size)
           have k0 := (HJ.out wP hbP').2.2.1.1.at0
           have k1 := (HJ.out wP hbP').2.2.1.1.1)
        | (go_at_call 20; refine (eqPrg _ _ p _ (HJ.out wP hbP').2.2.1.2.1 hP).mono ?_; rintro e wQ ⟨rfl, hbQ⟩
           have hbQ' := hbP'.trans (hbQ.mono hbP'.size)))
      all_goals
        go_wp2_with fail
        go_meet
        exact ⟨rfl, hbQ'⟩
    case rest =>
      obtain ⟨rfl, hwc⟩ := hcut
      obtain ⟨w13, hw13⟩ : ∃ x, x = wc := ⟨_, rfl⟩
      rw [← hw13] at hwc ⊢
      clear hw13 c0 c1 d0 d1
      have Hb13 : Hid (Below w11.heap.size w11 w13) := hwc
      have H513 : Hid (Below w5.heap.size w5 w13) := Hb11.out.trans (hwc.mono Hb11.out.size)
      clear hwc
      obtain ⟨z7, e0, e1, e2, e3, e4, e5, e6⟩ := (H5.out w13 H513.out).2.1.cells
      obtain ⟨y7, f0, f1, f2, f3, f4, f5, f6⟩ := (HJ.out w13 Hb13.out).2.2.2.1.1.cells
      go_upto_region 16 with fail
      go_cut [49] from 45 to 49 (fun q wd => q = .bool false ∧ Below w11.heap.size w11 wd)
      case first =>
        go_region_with (first
          | (go_at_call 17; refine (toStateA (.slice D1 t.frames.length d1) (.slice D2 t.heap.length d2) (.slice D3 t.out.length d3) t _ (H5.out _ H513.out.drew).2.2.2.1 hd').mono ?_; rintro e wP ⟨R1, r1, R2, r2, R3, r3, rfl, hP, hbP⟩
             have hbP' := Hb13.out.drew.trans (hbP.mono Hb13.out.size)
             obtain ⟨v7, k0, k1, k2, k3, k4, k5, k6⟩ := (HJ.out wP hbP').2.2.2.1.1.cells)
          | (go_at_call 19; refine (eqState (.slice X1 t.frames.length x1) (.slice X2 t.heap.length x2) (.slice X3 t.out.length x3) (.slice R1 t.frames.length r1) (.slice R2 t.heap.length r2) (.slice R3 t.out.length r3) t _ (HJ.out wP hbP').2.2.2.1.2.stRow hP).mono ?_; rintro e wQ ⟨rfl, hbQ⟩
             have hbQ' := hbP'.trans (hbQ.mono hbP'.size)))
        all_goals
          go_wp2_with fail
          go_meet
          exact ⟨rfl, hbQ'⟩
      case rest =>
        obtain ⟨rfl, hwc⟩ := hcut
        obtain ⟨w14, hw14⟩ : ∃ x, x = wc := ⟨_, rfl⟩
        rw [← hw14] at hwc ⊢
        clear hw14 z7 e0 e1 e2 e3 e4 e5 e6 y7 f0 f1 f2 f3 f4 f5 f6
        obtain ⟨bg, og, hx14, hi14, h514⟩ := HJ.out w14 hwc
        have BG14 : Hid (StBox w14 w10.heap.size (.slice G1 s2.frames.length g1) (.slice G2 s2.heap.length g2) (.slice G3 s2.out.length g3) s2) := bg
        have OG14 : Hid (OwnSt (cutOwn w10.heap.size own) w9.heap.size w14 (.slice G1 s2.frames.length g1) (.slice G2 s2.heap.length g2) (.slice G3 s2.out.length g3) s2 GX GY GZ) := og
        have HX14 : Hid (Box w14 w6.heap.size #[.slice AX p.length capX] ∧ FnRow 0 w14 (.slice AX p.length capX) p ∧ MarkRow Bf w6.heap.size w14 (.slice AX p.length capX) p ∧ (∀ b j, Bf ≤ b → b < w6.heap.size → w14.frozen? ⟨b, j, none⟩ = false)) := hx14
        have HI14 : Hid (StBox w14 w8.heap.size (.slice X1 t.frames.length x1) (.slice X2 t.heap.length x2) (.slice X3 t.out.length x3) t ∧ OwnSt (cutOwn w8.heap.size own1) w7.heap.size w14 (.slice X1 t.frames.length x1) (.slice X2 t.heap.length x2) (.slice X3 t.out.length x3) t FX FY FZ) := hi14
        have H514 : Hid (Below w5.heap.size w5 w14) := h514
        have h14 : w11.heap.size ≤ w14.heap.size := hwc.size
        have d0 := hx14.1.at0
        have d1 := hx14.1.1
        have hz7 : w7.heap.size ≤ w14.heap.size := by have := H89.out; have := H1011.out; omega
        have hz67 : w6.heap.size ≤ w7.heap.size := by have := H67.out; omega
        clear bg og hx14 hi14 h514 hwc Hb13 H513 HJ
        go_wp2_with fail
        refine (markPrg _ p 1 _ HX14.out.2.2.1 HX14.out.2.2.2 hc (by omega)).mono ?_
        rintro e w15 ⟨m, rfl, hm, hs15, ⟨ho15, ht15, hp15⟩, hblk⟩
        have H515 : Hid (Below w5.heap.size w5 w15) := ⟨ho15.trans H514.out.os, ht15.trans H514.out.tape, hp15.trans H514.out.output, Nat.le_trans H514.out.size hs15, fun b hb => (hblk b (by have := H514.out.size; omega) (.inl (by omega))).trans (H514.out.block b hb)⟩
        have hK : Kept w6.heap.size w14 w15 := Kept.of_blocks hs15 (fun b h1 h2 => hblk b h2 (.inr h1))
        have hK7 : Kept w7.heap.size w14 w15 := ⟨hK.1, fun b j h1 h2 => hK.2 b j (by omega) h2⟩
        have hK9 : Kept w9.heap.size w14 w15 := ⟨hK.1, fun b j h1 h2 => hK.2 b j (by have := H89.out; omega) h2⟩
        have BG15 : Hid (StBox w15 w10.heap.size (.slice G1 s2.frames.length g1) (.slice G2 s2.heap.length g2) (.slice G3 s2.out.length g3) s2) := BG14.out.kept hK9 h910
        have OG15 : Hid (OwnSt (cutOwn w10.heap.size own) w9.heap.size w15 (.slice G1 s2.frames.length g1) (.slice G2 s2.heap.length g2) (.slice G3 s2.out.length g3) s2 GX GY GZ) := OG14.out.kept hK9
        have BI15 : Hid (StBox w15 w8.heap.size (.slice X1 t.frames.length x1) (.slice X2 t.heap.length x2) (.slice X3 t.out.length x3) t) := HI14.out.1.kept hK7 h78
        have OI15 : Hid (OwnSt (cutOwn w8.heap.size own1) w7.heap.size w15 (.slice X1 t.frames.length x1) (.slice X2 t.heap.length x2) (.slice X3 t.out.length x3) t FX FY FZ) := HI14.out.2.kept hK7
        have h15 : w11.heap.size ≤ w15.heap.size := Nat.le_trans h14 hs15
        have hz15 : w7.heap.size ≤ w15.heap.size := Nat.le_trans hz7 hs15
        clear hs15 ho15 ht15 hp15 hblk hK hK7 hK9 d0 d1 HX14 HI14 OG14 BG14
        obtain ⟨y7, f0, f1, f2, f3, f4, f5, f6⟩ := BI15.out.cells
        go_wp2_with fail
        refine (markStateT (.slice X1 t.frames.length x1) (.slice X2 t.heap.length x2) (.slice X3 t.out.length x3) t FX FY FZ m _ OI15.out hz15 (fun b j hb => by have := H89.out; have := H1011.out; unfold cutOwn; rw [if_neg (by omega)]) (by have := (cnt_bulk t hd').1; omega) (small_of_bulk hd')).mono ?_
        rintro e w16 ⟨rfl, -, hsp1⟩
        have hb16 := hsp1.below
        have H516 : Hid (Below w5.heap.size w5 w16) := H515.out.trans (hb16.mono (by have := Hb7.out.size; omega))
        have hK9 : Kept w9.heap.size w15 w16 := ⟨hb16.size, fun b j h1 h2 => ⟨hsp1.cell b j h2 (by have := H89.out; unfold cutOwn; rw [if_neg (by omega)]), hsp1.thaw b j h2⟩⟩
        have BG16 : Hid (StBox w16 w10.heap.size (.slice G1 s2.frames.length g1) (.slice G2 s2.heap.length g2) (.slice G3 s2.out.length g3) s2) := BG15.out.kept hK9 h910
        have OG16 : Hid (OwnSt (cutOwn w10.heap.size own) w9.heap.size w16 (.slice G1 s2.frames.length g1) (.slice G2 s2.heap.length g2) (.slice G3 s2.out.length g3) s2 GX GY GZ) := OG15.out.kept hK9
        have h16 : w11.heap.size ≤ w16.heap.size := Nat.le_trans h15 hb16.size
        obtain ⟨m2, hm2⟩ : ∃ m2, m2 = m + cntS t := ⟨_, rfl⟩
        rw [← hm2]
        have hm0 : decide ((m2 : Int) < 0) = false := by simp
        clear hsp1 hb16 hK9 hm2 OG15 BG15 OI15 BI15 y7 f0 f1 f2 f3 f4 f5 f6
        obtain ⟨z7, e0, e1, e2, e3, e4, e5, e6⟩ := (H5.out w16 H516.out).2.2.2.2.2.1.cells
        obtain ⟨y7, f0, f1, f2, f3, f4, f5, f6⟩ := BG16.out.cells
        go_wp2_with fail
        refine (eqState (.slice G1 s2.frames.length g1) (.slice G2 s2.heap.length g2) (.slice G3 s2.out.length g3) (.slice A1 s2.frames.length a1) (.slice A2 s2.heap.length a2) (.slice A3 s2.out.length a3) s2 _ OG16.out.stRow (H5.out _ H516.out).2.2.2.2.2.2).mono ?_
        rintro e w17 ⟨rfl, hb17⟩
        have H517 : Hid (Below w5.heap.size w5 w17) := H516.out.trans (hb17.mono H516.out.size)
        have BG17 : Hid (StBox w17 w10.heap.size (.slice G1 s2.frames.length g1) (.slice G2 s2.heap.length g2) (.slice G3 s2.out.length g3) s2) := BG16.out.below hb17
        have OG17 : Hid (OwnSt (cutOwn w10.heap.size own) w9.heap.size w17 (.slice G1 s2.frames.length g1) (.slice G2 s2.heap.length g2) (.slice G3 s2.out.length g3) s2 GX GY GZ) := OG16.out.below hb17
        have h17 : w11.heap.size ≤ w17.heap.size := Nat.le_trans h16 hb17.size
        clear hb17 e0 e1 e2 e3 e4 e5 e6 z7 f0 f1 f2 f3 f4 f5 f6 y7 OG16 BG16
        obtain ⟨y7, f0, f1, f2, f3, f4, f5, f6⟩ := BG17.out.cells
        go_wp2_with fail
        refine (markState (.slice G1 s2.frames.length g1) (.slice G2 s2.heap.length g2) (.slice G3 s2.out.length g3) s2 GX GY GZ 1 _ OG17.out (by have := H1011.out; omega) (fun b j hb => by have := H1011.out; unfold cutOwn; rw [if_neg (by omega)]) (by have := Hcnt.out.1; omega) Hsmall.out).mono ?_
        rintro e w18 ⟨rfl, hO18, hsp⟩
        have hb18 := hsp.below
        have H518 : Hid (Below w5.heap.size w5 w18) := H517.out.trans (hb18.mono (by have := Hb9.out.size; omega))
        have BG18 : Hid (StBox w18 w10.heap.size (.slice G1 s2.frames.length g1) (.slice G2 s2.heap.length g2) (.slice G3 s2.out.length g3) s2) := hsp.box (Nat.le_refl _) BG17.out
        have OG18 : Hid (StRow w9.heap.size w18 (.slice G1 s2.frames.length g1) (.slice G2 s2.heap.length g2) (.slice G3 s2.out.length g3) (markS s2 1)) := hO18.stRow
        obtain ⟨m3, hm3⟩ : ∃ m3, m3 = 1 + cntS s2 := ⟨_, rfl⟩
        rw [← hm3]
        have Hm3 : Hid (m3 = 1 + cntS s2) := hm3
        clear hO18 hsp hb18 hm3 f0 f1 f2 f3 f4 f5 f6 y7 OG17 BG17
        obtain ⟨y7, f0, f1, f2, f3, f4, f5, f6⟩ := BG18.out.cells
        go_wp2_with fail
        refine (heldState (.slice G1 s2.frames.length g1) (.slice G2 s2.heap.length g2) (.slice G3 s2.out.length g3) s2 1 _ OG18.out (by have := Hcnt.out.1; omega) Hcnt.out.2.1 Hcnt.out.2.2 Hsmall.out).mono ?_
        rintro e w19 ⟨rfl, hb19⟩
        have H519 : Hid (Below w5.heap.size w5 w19) := H518.out.trans (hb19.mono H518.out.size)
        have BG19 : Hid (StBox w19 w10.heap.size (.slice G1 s2.frames.length g1) (.slice G2 s2.heap.length g2) (.slice G3 s2.out.length g3) s2) := BG18.out.below hb19
        have OG19 : Hid (StRow w9.heap.size w19 (.slice G1 s2.frames.length g1) (.slice G2 s2.heap.length g2) (.slice G3 s2.out.length g3) (markS s2 1)) := OG18.out.below hb19
        rw [← Hm3.out]
        clear hb19 f0 f1 f2 f3 f4 f5 f6 y7 OG18 BG18
        obtain ⟨⟨c0, c1⟩, -⟩ := H5.out w19 H519.out
        obtain ⟨z7, e0, e1, e2, e3, e4, e5, e6⟩ := (H5.out w19 H519.out).2.1.cells
        have H19 : Hid (∀ W, Below w19.heap.size w19 W → (W.cell? ⟨w.heap.size, 0, none⟩ = some (.slice A p.length cap) ∧ w.heap.size < W.heap.size) ∧ StBox W (w.heap.size + 1) (.slice D1 t.frames.length d1) (.slice D2 t.heap.length d2) (.slice D3 t.out.length d3) t ∧ FnRow 0 W (.slice A p.length cap) p ∧ StRow 0 W (.slice D1 t.frames.length d1) (.slice D2 t.heap.length d2) (.slice D3 t.out.length d3) t ∧ Tab W) := by
          intro W h
          obtain ⟨g1, g2, g3, g4, g5, _⟩ := H5.out W (H519.out.trans (h.mono H519.out.size))
          exact ⟨g1, g2, g3, g4, g5⟩
        go_upto_region 31 with fail
        go_cut [13] from 75 to 79 (fun q wc => W0Told p t w19 wc q)
        case first =>
          have hB0 : Below w19.heap.size w19 w19 := (Below.refl _ _)
          have HPa : Hid (∀ X, Below w19.heap.size w19 X → Calls Tryz.prog 16 #[.agg #[.slice A p.length cap]] X fun e w' => ∃ P1 p1, e = .returned (.agg #[.slice P1 p.length p1]) ∧ FnRow 0 w' (.slice P1 p.length p1) p ∧ Below X.heap.size X w') := fun X hX => (toPrgA (.slice A p.length cap) p X (H19.out X hX).2.2.1 hc).mono (by rintro e w' ⟨P1, p1, h1, h2, h3⟩; exact ⟨P1, p1, h1, h2.lower (Nat.zero_le _), h3⟩)
          have HQa : Hid (∀ X, Below w19.heap.size w19 X → Calls Tryz.prog 17 #[.agg #[.slice D1 t.frames.length d1, .slice D2 t.heap.length d2, .slice D3 t.out.length d3, .int .i64 t.fuel, .bool t.done, .int .i64 t.value, .int .i64 t.trap]] X fun e w' => ∃ Q1 q1 Q2 q2 Q3 q3, e = .returned (.agg #[.slice Q1 t.frames.length q1, .slice Q2 t.heap.length q2, .slice Q3 t.out.length q3, .int .i64 t.fuel, .bool t.done, .int .i64 t.value, .int .i64 t.trap]) ∧ StRow 0 w' (.slice Q1 t.frames.length q1) (.slice Q2 t.heap.length q2) (.slice Q3 t.out.length q3) t ∧ Below X.heap.size X w') := fun X hX => (toStateA (.slice D1 t.frames.length d1) (.slice D2 t.heap.length d2) (.slice D3 t.out.length d3) t X (H19.out X hX).2.2.2.1 hd').mono (by rintro e w' ⟨Q1, q1, Q2, q2, Q3, q3, h1, h2, h3⟩; exact ⟨Q1, q1, Q2, q2, Q3, q3, h1, ⟨h2.1.lower (Nat.zero_le _), h2.2.1.lower (Nat.zero_le _), h2.2.2.lower (Nat.zero_le _)⟩, h3⟩)
          have HSS : Hid (∀ w', Below w19.heap.size w19 w' → w'.cell? ⟨w.heap.size, 0, none⟩ = some (.slice A p.length cap) ∧ w'.cell? ⟨w.heap.size + 1, 0, none⟩ = some (.slice D1 t.frames.length d1) ∧ w'.cell? ⟨w.heap.size + 1, 1, none⟩ = some (.slice D2 t.heap.length d2) ∧ w'.cell? ⟨w.heap.size + 1, 2, none⟩ = some (.slice D3 t.out.length d3) ∧ w'.cell? ⟨w.heap.size + 1, 3, none⟩ = some (.int .i64 t.fuel) ∧ w'.cell? ⟨w.heap.size + 1, 4, none⟩ = some (.bool t.done) ∧ w'.cell? ⟨w.heap.size + 1, 5, none⟩ = some (.int .i64 t.value) ∧ w'.cell? ⟨w.heap.size + 1, 6, none⟩ = some (.int .i64 t.trap)) := fun w' h => by
            obtain ⟨⟨k0, _⟩, k1, _⟩ := H19.out w' h
            obtain ⟨_, m0, m1, m2, m3, m4, m5, m6⟩ := k1.cells
            exact ⟨k0, m0, m1, m2, m3, m4, m5, m6⟩
          have HFa : Hid (∀ X P1 p1 Q1 q1 Q2 q2 Q3 q3, Below w19.heap.size w19 X → FnRow 0 X (.slice P1 p.length p1) p → StRow 0 X (.slice Q1 t.frames.length q1) (.slice Q2 t.heap.length q2) (.slice Q3 t.out.length q3) t → Calls Tryz.prog 18 #[.agg #[.slice P1 p.length p1], .agg #[.slice Q1 t.frames.length q1, .slice Q2 t.heap.length q2, .slice Q3 t.out.length q3, .int .i64 t.fuel, .bool t.done, .int .i64 t.value, .int .i64 t.trap]] X fun e w' => ∃ A1 a1 A2 a2 A3 a3 s', e = .returned (.agg #[.slice A1 s'.frames.length a1, .slice A2 s'.heap.length a2, .slice A3 s'.out.length a3, .int .i64 s'.fuel, .bool s'.done, .int .i64 s'.value, .int .i64 s'.trap]) ∧ StRow X.heap.size w' (.slice A1 s'.frames.length a1) (.slice A2 s'.heap.length a2) (.slice A3 s'.out.length a3) s' ∧ StepIs p t s' ∧ Small s' ∧ Below X.heap.size X w') := fun X P1 p1 Q1 q1 Q2 q2 Q3 q3 hX hP hQ => implStepSA _ _ _ _ p t X (H19.out X hX).2.2.2.2 hP Hok.out hQ Hokt.out hd'
          refine wp_region_held_drew (S := fun w' => w'.cell? ⟨w.heap.size, 0, none⟩ = some (.slice A p.length cap) ∧ w'.cell? ⟨w.heap.size + 1, 0, none⟩ = some (.slice D1 t.frames.length d1) ∧ w'.cell? ⟨w.heap.size + 1, 1, none⟩ = some (.slice D2 t.heap.length d2) ∧ w'.cell? ⟨w.heap.size + 1, 2, none⟩ = some (.slice D3 t.out.length d3) ∧ w'.cell? ⟨w.heap.size + 1, 3, none⟩ = some (.int .i64 t.fuel) ∧ w'.cell? ⟨w.heap.size + 1, 4, none⟩ = some (.bool t.done) ∧ w'.cell? ⟨w.heap.size + 1, 5, none⟩ = some (.int .i64 t.value) ∧ w'.cell? ⟨w.heap.size + 1, 6, none⟩ = some (.int .i64 t.trap)) (by kernel_rfl) (HSS.out _ hB0.drew) (fun hHeld => ?_)
          refine wpAnyH_take (i := 0) (v := ?v1) rfl (by kernel_rfl) (by kernel_rfl) (by kernel_rfl) (fun _ _ _ h => h) (Or.inl ⟨by rfl, ?h1⟩) (by assumption) ?r1
          case h1 => (intro wS hSw; (try dsimp only at hSw); go_simp; try with_reducible rfl)
          case r1 =>
            simp only [Act.put, List.setIfInBounds_toArray]
            refine wpAnyH_take (i := 2) (v := ?v2) rfl (by kernel_rfl) (by kernel_rfl) (by kernel_rfl) (fun _ _ _ h => h) (Or.inl ⟨by rfl, ?h2⟩) (by assumption) ?r2
            case h2 => (intro wS hSw; (try dsimp only at hSw); go_simp; try with_reducible rfl)
            case r2 =>
              try simp only [Act.put]
              refine wpAnyH_ready (rs := [1, 5]) (by kernel_rfl) (by simp) ?_
              refine AllReadyH.cons rfl (fun K hK => ?_) (AllReadyH.cons rfl (fun K hK => ?_) AllReadyH.nil)
              · go_simp
                refine Calls.mono (HPa.out _ hB0.drew) ?_
                rintro e wP ⟨P1, p1, rfl, hP, hbP0⟩
                have hbP := bel_step hB0.drew hbP0
                go_wp2_with fail
                refine hK.out _ _ ?_ (fun hHeld3 => ?_)
                · exact HSS.out _ hbP
                clear hK K
                try simp only [Act.put]
                refine wpAnyH_ready (rs := [3, 5]) (by kernel_rfl) (by simp) ?_
                refine AllReadyH.cons rfl (fun K hK => ?_) (AllReadyH.cons rfl (fun K hK => ?_) AllReadyH.nil)
                · go_simp
                  refine Calls.mono (HQa.out _ hbP) ?_
                  rintro e wQ ⟨Q1, q1, Q2, q2, Q3, q3, rfl, hQ, hbQ0⟩
                  have hbQ := bel_step hbP hbQ0
                  go_wp2_with fail
                  refine hK.out _ _ ?_ (fun hHeld4 => ?_)
                  · exact HSS.out _ hbQ
                  clear hK K
                  try simp only [Act.put]
                  refine wpAnyH_ready (rs := [4, 5]) (by kernel_rfl) (by simp) ?_
                  refine AllReadyH.cons rfl (fun K hK => ?_) (AllReadyH.cons rfl (fun K hK => ?_) AllReadyH.nil)
                  · go_simp
                    refine Calls.mono (HFa.out _ P1 p1 Q1 q1 Q2 q2 Q3 q3 hbQ (hP.below hbQ0) hQ) ?_
                    rintro e wT ⟨A1, a1, A2, a2, A3, a3, s', rfl, hS, hst, hsm, hbT0⟩
                    have hbT := bel_step hbQ hbT0
                    go_wp2_with fail
                    refine hK.out _ _ ?_ (fun hHeld5 => ?_)
                    · exact HSS.out _ hbT
                    clear hK K
                    try simp only [Act.put]
                    refine wpAnyH_ready (rs := [5]) (by kernel_rfl) (by simp) ?_
                    refine AllReadyH.cons rfl (fun K hK => ?_) AllReadyH.nil
                    · go_simp
                      refine hK.out _ _ ?_ (fun hHeld7 => ?_)
                      · exact HSS.out _ (hbT.alloc hbT.size (.cells #[.slice none 0 0, .slice none 0 0, .slice none 0 0, .int .i64 0, .bool false, .int .i64 0, .int .i64 0] 45))
                      clear hK K
                      try simp only [Act.put]
                      refine wpAnyH_ready (rs := [6]) (by kernel_rfl) (by simp) ?_
                      refine AllReadyH.cons rfl (fun K hK => ?_) AllReadyH.nil
                      · go_simp
                        refine hK.out _ _ ?_ (fun hHeldZ => ?_)
                        · exact HSS.out _ (by (repeat (first | with_reducible assumption | with_reducible refine bel_set ?_ (by first | exact hbT.size | exact hbP.size | exact hbQ.size | exact hB0.size) | with_reducible refine bel_alloc ?_)); first | done | fail)
                        clear hK K
                        refine wpAnyH_done (by kernel_rfl) ?_ _
                        go_wp2_with fail
                        go_meet
                        exact w0_after hS hst hsm hbT _
                  · go_simp
                    refine hK.out _ _ ?_ (fun hHeld9 => ?_)
                    · exact HSS.out _ (hbQ.alloc hbQ.size (.cells #[.slice none 0 0, .slice none 0 0, .slice none 0 0, .int .i64 0, .bool false, .int .i64 0, .int .i64 0] 45))
                    clear hK K
                    try simp only [Act.put]
                    refine wpAnyH_ready (rs := [4]) (by kernel_rfl) (by simp) ?_
                    refine AllReadyH.cons rfl (fun K hK => ?_) AllReadyH.nil
                    · go_simp
                      refine Calls.mono (HFa.out _ P1 p1 Q1 q1 Q2 q2 Q3 q3 (hbQ.alloc hbQ.size (.cells #[.slice none 0 0, .slice none 0 0, .slice none 0 0, .int .i64 0, .bool false, .int .i64 0, .int .i64 0] 45)) ((hP.below hbQ0).below (alB _ _)) (hQ.below (alB _ _))) ?_
                      rintro e wT ⟨A1, a1, A2, a2, A3, a3, s', rfl, hS, hst, hsm, hbT0⟩
                      have hbT := bel_step (hbQ.alloc hbQ.size (.cells #[.slice none 0 0, .slice none 0 0, .slice none 0 0, .int .i64 0, .bool false, .int .i64 0, .int .i64 0] 45)) hbT0
                      have hV8 := (vrow_new _ #[.slice none 0 0, .slice none 0 0, .slice none 0 0, .int .i64 0, .bool false, .int .i64 0, .int .i64 0] 45).below hbT0
                      obtain ⟨n0, k0⟩ := hV8.2 0 (by simp)
                      obtain ⟨n1, k1⟩ := hV8.2 1 (by simp)
                      obtain ⟨n2, k2⟩ := hV8.2 2 (by simp)
                      obtain ⟨n3, k3⟩ := hV8.2 3 (by simp)
                      obtain ⟨n4, k4⟩ := hV8.2 4 (by simp)
                      obtain ⟨n5, k5⟩ := hV8.2 5 (by simp)
                      obtain ⟨n6, k6⟩ := hV8.2 6 (by simp)
                      have nz := hV8.1
                      simp only [List.getElem_cons_succ, List.getElem_cons_zero] at n0 n1 n2 n3 n4 n5 n6
                      go_wp2_with fail
                      refine hK.out _ _ ?_ (fun hHeld10 => ?_)
                      · exact HSS.out _ hbT
                      clear hK K
                      try simp only [Act.put]
                      refine wpAnyH_ready (rs := [6]) (by kernel_rfl) (by simp) ?_
                      refine AllReadyH.cons rfl (fun K hK => ?_) AllReadyH.nil
                      · go_simp
                        refine hK.out _ _ ?_ (fun hHeldZ => ?_)
                        · exact HSS.out _ (by (repeat (first | with_reducible assumption | with_reducible refine bel_set ?_ (by first | exact hbT.size | exact hbP.size | exact hbQ.size | exact hB0.size) | with_reducible refine bel_alloc ?_)); first | done | fail)
                        clear hK K
                        refine wpAnyH_done (by kernel_rfl) ?_ _
                        go_wp2_with fail
                        go_meet
                        exact w0_before hV8 (by first | (simp; done) | (have h1 := hbQ0.size; simp at h1; omega) | (have h1 := hbP0.size; simp at h1; omega) | (have h1 := hbQ0.size; have h2 := hbP0.size; simp at h1 h2; omega)) (by first | exact hbQ.size | exact hbP.size | exact hB0.size) hS hst hsm hbT
                · go_simp
                  refine hK.out _ _ ?_ (fun hHeld12 => ?_)
                  · exact HSS.out _ (hbP.alloc hbP.size (.cells #[.slice none 0 0, .slice none 0 0, .slice none 0 0, .int .i64 0, .bool false, .int .i64 0, .int .i64 0] 45))
                  clear hK K
                  try simp only [Act.put]
                  refine wpAnyH_ready (rs := [3]) (by kernel_rfl) (by simp) ?_
                  refine AllReadyH.cons rfl (fun K hK => ?_) AllReadyH.nil
                  · go_simp
                    refine Calls.mono (HQa.out _ (hbP.alloc hbP.size (.cells #[.slice none 0 0, .slice none 0 0, .slice none 0 0, .int .i64 0, .bool false, .int .i64 0, .int .i64 0] 45))) ?_
                    rintro e wQ ⟨Q1, q1, Q2, q2, Q3, q3, rfl, hQ, hbQ0⟩
                    have hbQ := bel_step (hbP.alloc hbP.size (.cells #[.slice none 0 0, .slice none 0 0, .slice none 0 0, .int .i64 0, .bool false, .int .i64 0, .int .i64 0] 45)) hbQ0
                    go_wp2_with fail
                    refine hK.out _ _ ?_ (fun hHeld13 => ?_)
                    · exact HSS.out _ hbQ
                    clear hK K
                    try simp only [Act.put]
                    refine wpAnyH_ready (rs := [4]) (by kernel_rfl) (by simp) ?_
                    refine AllReadyH.cons rfl (fun K hK => ?_) AllReadyH.nil
                    · go_simp
                      refine Calls.mono (HFa.out _ P1 p1 Q1 q1 Q2 q2 Q3 q3 hbQ ((hP.below (alB _ _)).below hbQ0) hQ) ?_
                      rintro e wT ⟨A1, a1, A2, a2, A3, a3, s', rfl, hS, hst, hsm, hbT0⟩
                      have hbT := bel_step hbQ hbT0
                      have hV8 := ((vrow_new _ #[.slice none 0 0, .slice none 0 0, .slice none 0 0, .int .i64 0, .bool false, .int .i64 0, .int .i64 0] 45).below hbQ0).below hbT0
                      obtain ⟨n0, k0⟩ := hV8.2 0 (by simp)
                      obtain ⟨n1, k1⟩ := hV8.2 1 (by simp)
                      obtain ⟨n2, k2⟩ := hV8.2 2 (by simp)
                      obtain ⟨n3, k3⟩ := hV8.2 3 (by simp)
                      obtain ⟨n4, k4⟩ := hV8.2 4 (by simp)
                      obtain ⟨n5, k5⟩ := hV8.2 5 (by simp)
                      obtain ⟨n6, k6⟩ := hV8.2 6 (by simp)
                      have nz := hV8.1
                      simp only [List.getElem_cons_succ, List.getElem_cons_zero] at n0 n1 n2 n3 n4 n5 n6
                      go_wp2_with fail
                      refine hK.out _ _ ?_ (fun hHeld14 => ?_)
                      · exact HSS.out _ hbT
                      clear hK K
                      try simp only [Act.put]
                      refine wpAnyH_ready (rs := [6]) (by kernel_rfl) (by simp) ?_
                      refine AllReadyH.cons rfl (fun K hK => ?_) AllReadyH.nil
                      · go_simp
                        refine hK.out _ _ ?_ (fun hHeldZ => ?_)
                        · exact HSS.out _ (by (repeat (first | with_reducible assumption | with_reducible refine bel_set ?_ (by first | exact hbT.size | exact hbP.size | exact hbQ.size | exact hB0.size) | with_reducible refine bel_alloc ?_)); first | done | fail)
                        clear hK K
                        refine wpAnyH_done (by kernel_rfl) ?_ _
                        go_wp2_with fail
                        go_meet
                        exact w0_before hV8 (by first | (simp; done) | (have h1 := hbQ0.size; simp at h1; omega) | (have h1 := hbP0.size; simp at h1; omega) | (have h1 := hbQ0.size; have h2 := hbP0.size; simp at h1 h2; omega)) (by first | exact hbQ.size | exact hbP.size | exact hB0.size) hS hst hsm hbT
              · go_simp
                refine hK.out _ _ ?_ (fun hHeld16 => ?_)
                · exact HSS.out _ (hB0.alloc hB0.size (.cells #[.slice none 0 0, .slice none 0 0, .slice none 0 0, .int .i64 0, .bool false, .int .i64 0, .int .i64 0] 45)).drew
                clear hK K
                try simp only [Act.put]
                refine wpAnyH_ready (rs := [1]) (by kernel_rfl) (by simp) ?_
                refine AllReadyH.cons rfl (fun K hK => ?_) AllReadyH.nil
                · go_simp
                  refine Calls.mono (HPa.out _ (hB0.alloc hB0.size (.cells #[.slice none 0 0, .slice none 0 0, .slice none 0 0, .int .i64 0, .bool false, .int .i64 0, .int .i64 0] 45)).drew) ?_
                  rintro e wP ⟨P1, p1, rfl, hP, hbP0⟩
                  have hbP := bel_step (hB0.alloc hB0.size (.cells #[.slice none 0 0, .slice none 0 0, .slice none 0 0, .int .i64 0, .bool false, .int .i64 0, .int .i64 0] 45)).drew hbP0
                  go_wp2_with fail
                  refine hK.out _ _ ?_ (fun hHeld17 => ?_)
                  · exact HSS.out _ hbP
                  clear hK K
                  try simp only [Act.put]
                  refine wpAnyH_ready (rs := [3]) (by kernel_rfl) (by simp) ?_
                  refine AllReadyH.cons rfl (fun K hK => ?_) AllReadyH.nil
                  · go_simp
                    refine Calls.mono (HQa.out _ hbP) ?_
                    rintro e wQ ⟨Q1, q1, Q2, q2, Q3, q3, rfl, hQ, hbQ0⟩
                    have hbQ := bel_step hbP hbQ0
                    go_wp2_with fail
                    refine hK.out _ _ ?_ (fun hHeld18 => ?_)
                    · exact HSS.out _ hbQ
                    clear hK K
                    try simp only [Act.put]
                    refine wpAnyH_ready (rs := [4]) (by kernel_rfl) (by simp) ?_
                    refine AllReadyH.cons rfl (fun K hK => ?_) AllReadyH.nil
                    · go_simp
                      refine Calls.mono (HFa.out _ P1 p1 Q1 q1 Q2 q2 Q3 q3 hbQ (hP.below hbQ0) hQ) ?_
                      rintro e wT ⟨A1, a1, A2, a2, A3, a3, s', rfl, hS, hst, hsm, hbT0⟩
                      have hbT := bel_step hbQ hbT0
                      have hV8 := ((((vrow_new w19 #[.slice none 0 0, .slice none 0 0, .slice none 0 0, .int .i64 0, .bool false, .int .i64 0, .int .i64 0] 45).below (Below.refl _ _).drew).below hbP0).below hbQ0).below hbT0
                      obtain ⟨n0, k0⟩ := hV8.2 0 (by simp)
                      obtain ⟨n1, k1⟩ := hV8.2 1 (by simp)
                      obtain ⟨n2, k2⟩ := hV8.2 2 (by simp)
                      obtain ⟨n3, k3⟩ := hV8.2 3 (by simp)
                      obtain ⟨n4, k4⟩ := hV8.2 4 (by simp)
                      obtain ⟨n5, k5⟩ := hV8.2 5 (by simp)
                      obtain ⟨n6, k6⟩ := hV8.2 6 (by simp)
                      have nz := hV8.1
                      simp only [List.getElem_cons_succ, List.getElem_cons_zero] at n0 n1 n2 n3 n4 n5 n6
                      go_wp2_with fail
                      refine hK.out _ _ ?_ (fun hHeld19 => ?_)
                      · exact HSS.out _ hbT
                      clear hK K
                      try simp only [Act.put]
                      refine wpAnyH_ready (rs := [6]) (by kernel_rfl) (by simp) ?_
                      refine AllReadyH.cons rfl (fun K hK => ?_) AllReadyH.nil
                      · go_simp
                        refine hK.out _ _ ?_ (fun hHeldZ => ?_)
                        · exact HSS.out _ (by (repeat (first | with_reducible assumption | with_reducible refine bel_set ?_ (by first | exact hbT.size | exact hbP.size | exact hbQ.size | exact hB0.size) | with_reducible refine bel_alloc ?_)); first | done | fail)
                        clear hK K
                        refine wpAnyH_done (by kernel_rfl) ?_ _
                        go_wp2_with fail
                        go_meet
                        exact w0_before hV8 (by first | (simp; done) | (have h1 := hbQ0.size; simp at h1; omega) | (have h1 := hbP0.size; simp at h1; omega) | (have h1 := hbQ0.size; have h2 := hbP0.size; simp at h1 h2; omega)) (by first | exact hbQ.size | exact hbP.size | exact hB0.size) hS hst hsm hbT
        case rest =>
          clear c0 c1 e0 e1 e2 e3 e4 e5 e6 z7
          obtain ⟨bh, K1, k1, K2, k2, K3, k3, s3, rfl, bHB, bHR, hst3, -, hbc⟩ := hcut
          obtain rfl : s2 = s3 := Hst.out.unique hst3
          obtain ⟨w23, hw23⟩ : ∃ x, x = wc := ⟨_, rfl⟩
          rw [← hw23] at bHB bHR hbc ⊢
          clear hw23
          have H523 : Hid (Below w5.heap.size w5 w23) := H519.out.trans (hbc.mono H519.out.size)
          have BH : Hid (SBox w23 bh (.slice K1 s2.frames.length k1) (.slice K2 s2.heap.length k2) (.slice K3 s2.out.length k3) s2) := bHB
          have RH : Hid (StRow 0 w23 (.slice K1 s2.frames.length k1) (.slice K2 s2.heap.length k2) (.slice K3 s2.out.length k3) s2) := bHR
          have BG23 : Hid (StBox w23 w10.heap.size (.slice G1 s2.frames.length g1) (.slice G2 s2.heap.length g2) (.slice G3 s2.out.length g3) s2) := BG19.out.below hbc
          have OG23 : Hid (StRow w9.heap.size w23 (.slice G1 s2.frames.length g1) (.slice G2 s2.heap.length g2) (.slice G3 s2.out.length g3) (markS s2 1)) := OG19.out.below hbc
          clear bHB bHR hst3 hbc BG19 OG19
          obtain ⟨y7, f0, f1, f2, f3, f4, f5, f6⟩ := BH.out.cells
          obtain ⟨z7, e0, e1, e2, e3, e4, e5, e6⟩ := (H5.out w23 H523.out).2.2.2.2.2.1.cells
          go_wp2_with fail
          clear f0 f1 f2 f3 f4 f5 f6 y7 e0 e1 e2 e3 e4 e5 e6 z7
          refine (eqState (.slice K1 s2.frames.length k1) (.slice K2 s2.heap.length k2) (.slice K3 s2.out.length k3) (.slice A1 s2.frames.length a1) (.slice A2 s2.heap.length a2) (.slice A3 s2.out.length a3) s2 _ RH.out (H5.out _ H523.out).2.2.2.2.2.2).mono ?_
          rintro e w24 ⟨rfl, hb24⟩
          have H524 : Hid (Below w5.heap.size w5 w24) := H523.out.trans (hb24.mono H523.out.size)
          have BG24 : Hid (StBox w24 w10.heap.size (.slice G1 s2.frames.length g1) (.slice G2 s2.heap.length g2) (.slice G3 s2.out.length g3) s2) := BG23.out.below hb24
          have OG24 : Hid (StRow w9.heap.size w24 (.slice G1 s2.frames.length g1) (.slice G2 s2.heap.length g2) (.slice G3 s2.out.length g3) (markS s2 1)) := OG23.out.below hb24
          clear hb24 OG23 BG23 BH RH
          obtain ⟨y7, f0, f1, f2, f3, f4, f5, f6⟩ := BG24.out.cells
          go_wp2_with fail
          refine (heldState (.slice G1 s2.frames.length g1) (.slice G2 s2.heap.length g2) (.slice G3 s2.out.length g3) s2 1 _ OG24.out (by have := Hcnt.out.1; omega) Hcnt.out.2.1 Hcnt.out.2.2 Hsmall.out).mono ?_
          rintro e w25 ⟨rfl, hb25⟩
          have H525 : Hid (Below w.heap.size w w25) := Hw5.out.trans ((H524.out.trans (hb25.mono H524.out.size)).mono Hw5.out.size)
          rw [← Hm3.out]
          clear hb25
          go_wp2_with fail
          go_ret
          exact ⟨rfl, H525.out⟩
end Go.Proofs.YtnknnncehcofnaaGreatDoor
