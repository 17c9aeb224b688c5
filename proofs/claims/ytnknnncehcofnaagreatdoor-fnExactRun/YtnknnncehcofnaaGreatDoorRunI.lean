/- impl.Run. -/
import Derived.Test.YtnknnncehcofnaaGreatDoorSpRunS
import Derived.BigRegion
import Derived.Deep.RegionHeld3
namespace Go.Proofs.YtnknnncehcofnaaGreatDoor
open Go.RowKit

/-- the cells of the doings -/
def fxD (D m : Nat) : Nat → Nat → Option Value := fun b j => if b = D ∧ ((1 ≤ j ∧ j ≤ 5) ∨ (10 ≤ j ∧ j ≤ 38)) then some (fnV m (doF j)) else none

theorem fxD_at (D m op : Nat) (h : (1 ≤ op ∧ op ≤ 5) ∨ (10 ≤ op ∧ op ≤ 38)) : fxD D m D op = some (fnV m (doF op)) := if_pos ⟨rfl, h⟩

theorem Mac.fixD {B m D : Nat} {v : Value} {own : Nat → Nat → Tag} {w : World} {V : Tag → Value} {C : Tag → List Value} {s : StM} (M : Mac B m 1 (prOf (pv0 v)) own w V C s) (hD : ∀ j, own D j = .no) (hDm : D ≠ m) (hB : B ≤ D) (hl : D < w.heap.size)
    (hc : ∀ op : Nat, (1 ≤ op ∧ op ≤ 5) ∨ (10 ≤ op ∧ op ≤ 38) → w.cell? ⟨D, op, none⟩ = some (fnV m (doF op)) ∧ w.frozen? ⟨D, op, none⟩ = false) : Mac B m 1 (prOf ⟨v, fxD D m⟩) own w V C s := by
  refine ⟨M.l, M.k, M.free, M.base, M.lt, M.cs, ⟨M.pre.1, fun u hu => (by cases hu), fun b j u hu => ?_⟩⟩
  have hu' : fxD D m b j = some u := hu
  unfold fxD at hu'
  split at hu'
  · rename_i h
    obtain ⟨rfl, h2⟩ := h
    cases hu'
    exact ⟨hD, hDm, hB, hl, (hc j h2).1, (hc j h2).2⟩
  · cases hu'

/-- the end of Run: what is read, what is told -/
structure EndQ (U R : Nat) (w : World) (m : Nat) (p : List FnM) (s s' : StM) (wf : World) (v1 v2 v3 : Value) : Prop where
  c0 : wf.cell? ⟨m, 1, none⟩ = some v1
  c1 : wf.cell? ⟨m, 2, none⟩ = some v2
  c2 : wf.cell? ⟨m, 3, none⟩ = some v3
  c3 : wf.cell? ⟨m, 4, none⟩ = some (.int .i64 s'.fuel)
  c4 : wf.cell? ⟨m, 5, none⟩ = some (.bool s'.done)
  c5 : wf.cell? ⟨m, 6, none⟩ = some (.int .i64 s'.value)
  c6 : wf.cell? ⟨m, 7, none⟩ = some (.int .i64 s'.trap)
  lt : m < wf.heap.size
  res : VRow wf R [.slice none 0 0, .slice none 0 0, .slice none 0 0, .int .i64 0, .bool false, .int .i64 0, .int .i64 0]
  out : VRow (((((((wf.setCell ⟨R, 0, none⟩ v1).setCell ⟨R, 1, none⟩ v2).setCell ⟨R, 2, none⟩ v3).setCell ⟨R, 3, none⟩ (.int .i64 s'.fuel)).setCell ⟨R, 4, none⟩ (.bool s'.done)).setCell ⟨R, 5, none⟩ (.int .i64 s'.value)).setCell ⟨R, 6, none⟩ (.int .i64 s'.trap)) R [v1, v2, v3, .int .i64 s'.fuel, .bool s'.done, .int .i64 s'.value, .int .i64 s'.trap]
  told : RunTold p s w (((((((wf.setCell ⟨R, 0, none⟩ v1).setCell ⟨R, 1, none⟩ v2).setCell ⟨R, 2, none⟩ v3).setCell ⟨R, 3, none⟩ (.int .i64 s'.fuel)).setCell ⟨R, 4, none⟩ (.bool s'.done)).setCell ⟨R, 5, none⟩ (.int .i64 s'.value)).setCell ⟨R, 6, none⟩ (.int .i64 s'.trap)) (.returned (.agg #[v1, v2, v3, .int .i64 s'.fuel, .bool s'.done, .int .i64 s'.value, .int .i64 s'.trap]))

theorem end_q {U R m : Nat} {pr : Pr} {own : Nat → Nat → Tag} {w wf : World} {V : Tag → Value} {C : Tag → List Value} {p : List FnM} {s s' : StM} (M : Mac U m 1 pr own wf V C s') (hsm : Small s') (hst : RunIs p s s')
    (hR : VRow wf R [.slice none 0 0, .slice none 0 0, .slice none 0 0, .int .i64 0, .bool false, .int .i64 0, .int .i64 0]) (hRU : R < U) (hwR : w.heap.size ≤ R) (hb : Below w.heap.size w wf) :
    ∃ E1 e1 E2 e2 E3 e3, EndQ U R w m p s s' wf (.slice E1 s'.frames.length e1) (.slice E2 s'.heap.length e2) (.slice E3 s'.out.length e3) := by
  have hO := M.l.state M.k hsm
  obtain ⟨E1, e1, h1⟩ := hO.stRow.1.form
  obtain ⟨E2, e2, h2⟩ := hO.stRow.2.1.form
  obtain ⟨E3, e3, h3⟩ := hO.stRow.2.2.form
  have k0 := (M.cs 0 (by omega)).1
  have k1 := (M.cs 1 (by omega)).1
  have k2 := (M.cs 2 (by omega)).1
  have k3 := (M.cs 3 (by omega)).1
  have k4 := (M.cs 4 (by omega)).1
  have k5 := (M.cs 5 (by omega)).1
  have k6 := (M.cs 6 (by omega)).1
  simp only [mcells] at k0 k1 k2 k3 k4 k5 k6
  rw [h1, h2, h3] at k0 k1 k2 k3 k4 k5 k6
  rw [h1, h2, h3] at hO
  refine ⟨E1, e1, E2, e2, E3, e3, ⟨by simpa using k0, by simpa using k1, by simpa using k2, by simpa using k3, by simpa using k4, by simpa using k5, by simpa using k6, M.lt, hR, ?_, ?_⟩⟩
  · have := ((((((hR.set_at 0 (.slice E1 s'.frames.length e1) (by simp)).set_at 1 (.slice E2 s'.heap.length e2) (by simp)).set_at 2 (.slice E3 s'.out.length e3) (by simp)).set_at 3 (.int .i64 s'.fuel) (by simp)).set_at 4 (.bool s'.done) (by simp)).set_at 5 (.int .i64 s'.value) (by simp)).set_at 6 (.int .i64 s'.trap) (by simp)
    simpa only [List.set_cons_succ, List.set_cons_zero] using this
  · exact ⟨_, _, _, own, _, _, _, s', rfl, (((((((hO.setLow (by exact hRU) _).setLow (by exact hRU) _).setLow (by exact hRU) _).setLow (by exact hRU) _).setLow (by exact hRU) _).setLow (by exact hRU) _).setLow (by exact hRU) _).lower (by omega), hst, hsm, ((((((hb.setCell hwR _).setCell hwR _).setCell hwR _).setCell hwR _).setCell hwR _).setCell hwR _).setCell hwR _⟩

set_option maxRecDepth 100000 in
set_option maxHeartbeats 3200000 in
theorem implRunS (vp x y z : Value) (p : List FnM) (s : StM) (w : World) (ht : Tab w) (hr : FnRow 0 w vp p) (hs : StRow 0 w x y z s) (hok : s.ok) (hn : s.bulk ≤ 1048576) :
    Calls Tryz.prog 25 #[.agg #[vp], stV x y z s] w fun e w' => RunTold p s w w' e := by
  have Hr : Hid (FnRow 0 w vp p) := hr
  have Hs : Hid (StRow 0 w x y z s) := hs
  have Ht : Hid (Tab w) := ht
  have Hok : Hid (s.ok) := hok
  have Hn : Hid (s.bulk ≤ 1048576) := hn
  obtain ⟨Ap, ap, rfl⟩ := hr.form
  obtain ⟨A1, a1, rfl⟩ := hs.1.form
  obtain ⟨A2, a2, rfl⟩ := hs.2.1.form
  obtain ⟨A3, a3, rfl⟩ := hs.2.2.form
  clear ht hr hs hok hn
  obtain ⟨o1, ho1⟩ : ∃ o, o = Obj.cells #[.slice Ap p.length ap] 25 := ⟨_, rfl⟩
  obtain ⟨o2, ho2⟩ : ∃ o, o = Obj.cells #[.slice A1 s.frames.length a1, .slice A2 s.heap.length a2, .slice A3 s.out.length a3, .int .i64 s.fuel, .bool s.done, .int .i64 s.value, .int .i64 s.trap] 45 := ⟨_, rfl⟩
  obtain ⟨o3, ho3⟩ : ∃ o, o = Obj.cells #[.slice none 0 0, .slice none 0 0, .slice none 0 0, .int .i64 0, .bool false, .int .i64 0, .int .i64 0] 45 := ⟨_, rfl⟩
  have hW2 : Below w.heap.size w (((w.alloc o1).alloc o2).alloc o3) := (((Below.refl _ _).alloc (Nat.le_refl _) _).alloc (by simp) _).alloc (by simp; omega) _
  have hz : (((w.alloc o1).alloc o2).alloc o3).heap.size = w.heap.size + 3 := by simp
  have hR1 : VRow (((w.alloc o1).alloc o2).alloc o3) w.heap.size [.slice Ap p.length ap] := by
    subst ho1
    exact ((vrow_new w #[.slice Ap p.length ap] 25).below ((Below.refl _ _).alloc (Nat.le_refl _) _)).below ((Below.refl _ _).alloc (Nat.le_refl _) _)
  have hR2 : VRow (((w.alloc o1).alloc o2).alloc o3) (w.heap.size + 1) [.slice A1 s.frames.length a1, .slice A2 s.heap.length a2, .slice A3 s.out.length a3, .int .i64 s.fuel, .bool s.done, .int .i64 s.value, .int .i64 s.trap] := by
    subst ho2
    have := (vrow_new (w.alloc o1) #[.slice A1 s.frames.length a1, .slice A2 s.heap.length a2, .slice A3 s.out.length a3, .int .i64 s.fuel, .bool s.done, .int .i64 s.value, .int .i64 s.trap] 45).below ((Below.refl _ _).alloc (Nat.le_refl _) o3)
    simpa using this
  have hR3 : VRow (((w.alloc o1).alloc o2).alloc o3) (w.heap.size + 1 + 1) [.slice none 0 0, .slice none 0 0, .slice none 0 0, .int .i64 0, .bool false, .int .i64 0, .int .i64 0] := by
    subst ho3
    have := vrow_new ((w.alloc o1).alloc o2) #[.slice none 0 0, .slice none 0 0, .slice none 0 0, .int .i64 0, .bool false, .int .i64 0, .int .i64 0] 45
    simpa using this
  obtain ⟨W, hW⟩ : ∃ W, W = ((w.alloc o1).alloc o2).alloc o3 := ⟨_, rfl⟩
  rw [← hW] at hW2 hz hR1 hR2 hR3
  have HW2 : Hid (Below w.heap.size w W) := hW2
  have HR1 : Hid (VRow W w.heap.size _) := hR1
  have HR2 : Hid (VRow W (w.heap.size + 1) _) := hR2
  have HR3 : Hid (VRow W (w.heap.size + 1 + 1) _) := hR3
  have Hz : Hid (W.heap.size = w.heap.size + 3) := hz
  subst ho1
  subst ho2
  subst ho3
  clear hW2 hz hR1 hR2 hR3
  unfold stV
  go_enter Tryz.func25, Tryz.ntmps25
  go_upto_region 1 with fail
  rw [← hW]
  clear hW
  have HS : Hid (∀ W', Below W.heap.size W W' → W'.cell? ⟨w.heap.size, 0, none⟩ = some (.slice Ap p.length ap) ∧ W'.cell? ⟨w.heap.size + 1, 0, none⟩ = some (.slice A1 s.frames.length a1) ∧ W'.cell? ⟨w.heap.size + 1, 1, none⟩ = some (.slice A2 s.heap.length a2) ∧ W'.cell? ⟨w.heap.size + 1, 2, none⟩ = some (.slice A3 s.out.length a3) ∧ W'.cell? ⟨w.heap.size + 1, 3, none⟩ = some (.int .i64 s.fuel) ∧ W'.cell? ⟨w.heap.size + 1, 4, none⟩ = some (.bool s.done) ∧ W'.cell? ⟨w.heap.size + 1, 5, none⟩ = some (.int .i64 s.value) ∧ W'.cell? ⟨w.heap.size + 1, 6, none⟩ = some (.int .i64 s.trap)) := fun W' hb => by
    have h1 := HR1.out.below hb
    have h2 := HR2.out.below hb
    exact ⟨(h1.2 0 (by simp)).1, (h2.2 0 (by simp)).1, (h2.2 1 (by simp)).1, (h2.2 2 (by simp)).1, (h2.2 3 (by simp)).1, (h2.2 4 (by simp)).1, (h2.2 5 (by simp)).1, (h2.2 6 (by simp)).1⟩
  go_cut [5] from 6 to 19 (fun q wd => Laid (w.heap.size + 3) (.slice Ap p.length ap) s W wd q)
  case first =>
    have hb0 : Below W.heap.size W W.drew := (Below.refl _ _).drew
    have HC : Hid (∀ W', Below W.heap.size W W' → Calls Tryz.prog 61 #[.agg #[.slice A1 s.frames.length a1, .slice A2 s.heap.length a2, .slice A3 s.out.length a3, .int .i64 s.fuel, .bool s.done, .int .i64 s.value, .int .i64 s.trap]] W' fun e w' => CopySTold s W' w' e) := fun W' hb => by
      have hb' := HW2.out.trans (hb.mono HW2.out.size)
      exact implCopyS _ _ _ s W' ⟨Hs.out.1.below hb', Hs.out.2.1.below hb', Hs.out.2.2.below hb'⟩ Hn.out
    have HY0 : Hid (_ ∧ _) := HS.out _ hb0
    have hbB : Below W.heap.size W (W.alloc (.cells #[.slice none 0 0, .slice none 0 0, .slice none 0 0, .slice none 0 0, .int .i64 0, .bool false, .int .i64 0, .int .i64 0] 99)).drew := ((Below.refl _ _).alloc (Nat.le_refl _) _).drew
    have HYB : Hid (_ ∧ _) := HS.out _ hbB
    go_region_held3 (fun w' => w'.cell? ⟨w.heap.size, 0, none⟩ = some (.slice Ap p.length ap) ∧ w'.cell? ⟨w.heap.size + 1, 0, none⟩ = some (.slice A1 s.frames.length a1) ∧ w'.cell? ⟨w.heap.size + 1, 1, none⟩ = some (.slice A2 s.heap.length a2) ∧ w'.cell? ⟨w.heap.size + 1, 2, none⟩ = some (.slice A3 s.out.length a3) ∧ w'.cell? ⟨w.heap.size + 1, 3, none⟩ = some (.int .i64 s.fuel) ∧ w'.cell? ⟨w.heap.size + 1, 4, none⟩ = some (.bool s.done) ∧ w'.cell? ⟨w.heap.size + 1, 5, none⟩ = some (.int .i64 s.value) ∧ w'.cell? ⟨w.heap.size + 1, 6, none⟩ = some (.int .i64 s.trap))
      (first | (with_reducible exact HY0.out) | (with_reducible exact HYB.out) | (with_reducible exact HYA.out) | (with_reducible exact HYA2.out) | (with_reducible exact HYA3.out) | (with_reducible exact HYB3.out))
      (first
        | (go_at_call 61; refine Calls.mono (HC.out _ ?hb) ?_
           case hb => with_reducible exact hb0
           rintro e wA ⟨B1, b1, B2, b2, B3, b3, own, X, Y, Z, rfl, hO, hbA⟩
           have hbA' : Below W.heap.size W wA := hb0.trans (hbA.mono hb0.size)
           have HYA : Hid (_ ∧ _) := HS.out wA hbA'
           have HYA2 : Hid (_ ∧ _) := HS.out _ (hbA'.alloc hbA'.size (.cells #[.slice none 0 0, .slice none 0 0, .slice none 0 0, .slice none 0 0, .int .i64 0, .bool false, .int .i64 0, .int .i64 0] 99))
           have HYA3 : Hid (_ ∧ _) := HS.out (wA.alloc (.cells #[.slice Ap p.length ap, .slice B1 s.frames.length b1, .slice B2 s.heap.length b2, .slice B3 s.out.length b3, .int .i64 s.fuel, .bool s.done, .int .i64 s.value, .int .i64 s.trap] 99)) (hbA'.alloc hbA'.size _))
        | (go_at_call 61; refine Calls.mono (HC.out _ ?hb) ?_
           case hb => with_reducible exact hbB
           rintro e wA ⟨B1, b1, B2, b2, B3, b3, own, X, Y, Z, rfl, hO, hbA⟩
           have hbA' : Below W.heap.size W wA := hbB.trans (hbA.mono (by simp))
           have HYA : Hid (_ ∧ _) := HS.out wA hbA'
           have hV8 : VRow wA W.heap.size [.slice none 0 0, .slice none 0 0, .slice none 0 0, .slice none 0 0, .int .i64 0, .bool false, .int .i64 0, .int .i64 0] := ((vrow_new W #[.slice none 0 0, .slice none 0 0, .slice none 0 0, .slice none 0 0, .int .i64 0, .bool false, .int .i64 0, .int .i64 0] 99).below (Below.refl _ _).drew).below hbA
           obtain ⟨n0, f0⟩ := hV8.2 0 (by simp)
           obtain ⟨n1, f1⟩ := hV8.2 1 (by simp)
           obtain ⟨n2, f2⟩ := hV8.2 2 (by simp)
           obtain ⟨n3, f3⟩ := hV8.2 3 (by simp)
           obtain ⟨n4, f4⟩ := hV8.2 4 (by simp)
           obtain ⟨n5, f5⟩ := hV8.2 5 (by simp)
           obtain ⟨n6, f6⟩ := hV8.2 6 (by simp)
           obtain ⟨n7, f7⟩ := hV8.2 7 (by simp)
           have nz := hV8.1
           have HYB3 : Hid (_ ∧ _) := HS.out ((((((((wA.setCell ⟨W.heap.size, 0, none⟩ (.slice Ap p.length ap)).setCell ⟨W.heap.size, 1, none⟩ (.slice B1 s.frames.length b1)).setCell ⟨W.heap.size, 2, none⟩ (.slice B2 s.heap.length b2)).setCell ⟨W.heap.size, 3, none⟩ (.slice B3 s.out.length b3)).setCell ⟨W.heap.size, 4, none⟩ (.int .i64 s.fuel)).setCell ⟨W.heap.size, 5, none⟩ (.bool s.done)).setCell ⟨W.heap.size, 6, none⟩ (.int .i64 s.value)).setCell ⟨W.heap.size, 7, none⟩ (.int .i64 s.trap)) ((((((((hbA'.setCell (Nat.le_refl _) _).setCell (Nat.le_refl _) _).setCell (Nat.le_refl _) _).setCell (Nat.le_refl _) _).setCell (Nat.le_refl _) _).setCell (Nat.le_refl _) _).setCell (Nat.le_refl _) _).setCell (Nat.le_refl _) _)
           simp only [List.getElem_cons_succ, List.getElem_cons_zero] at n0 n1 n2 n3 n4 n5 n6 n7))
    all_goals
      have hz := Hz.out
      first
        | (have hV9 := vrow_new wA #[.slice Ap p.length ap, .slice B1 s.frames.length b1, .slice B2 s.heap.length b2, .slice B3 s.out.length b3, .int .i64 s.fuel, .bool s.done, .int .i64 s.value, .int .i64 s.trap] 99
           obtain ⟨own', V, C, hM⟩ := laid_mac (U := w.heap.size + 3) (m := wA.heap.size) (vp := .slice Ap p.length ap) (wd := wA.alloc (.cells #[.slice Ap p.length ap, .slice B1 s.frames.length b1, .slice B2 s.heap.length b2, .slice B3 s.out.length b3, .int .i64 s.fuel, .bool s.done, .int .i64 s.value, .int .i64 s.trap] 99)) hO (by simp; omega) (.inr (Nat.le_refl _)) (by have := hbA'.size; omega) (by simp) (fun h => h.below ((Below.refl _ _).alloc (Nat.le_refl _) _)) (fun q hq => by
             have h1 := hV9.2 q (by simpa using hq)
             refine ⟨?_, h1.2⟩
             rw [h1.1]
             exact (List.getElem?_eq_getElem (by simpa using hq)).symm)
           go_wp2_with fail
           go_meet
           exact ⟨_, own', V, C, rfl, hM, by rw [← hz]; exact hbA'.alloc hbA'.size _⟩)
        | (have hV9 := ((((((((hV8.set_at 0 (.slice Ap p.length ap) (by simp)).set_at 1 (.slice B1 s.frames.length b1) (by simp)).set_at 2 (.slice B2 s.heap.length b2) (by simp)).set_at 3 (.slice B3 s.out.length b3) (by simp)).set_at 4 (.int .i64 s.fuel) (by simp)).set_at 5 (.bool s.done) (by simp)).set_at 6 (.int .i64 s.value) (by simp)).set_at 7 (.int .i64 s.trap) (by simp))
           simp only [List.set_cons_succ, List.set_cons_zero] at hV9
           obtain ⟨own', V, C, hM⟩ := laid_mac (U := w.heap.size + 3) (m := W.heap.size) (vp := .slice Ap p.length ap) hO (by simp; omega) (.inl (by simp)) (by omega) hV9.1 (fun h => ((((((((h.setLow (by show W.heap.size < _; simp) _).setLow (by show W.heap.size < _; simp) _).setLow (by show W.heap.size < _; simp) _).setLow (by show W.heap.size < _; simp) _).setLow (by show W.heap.size < _; simp) _).setLow (by show W.heap.size < _; simp) _).setLow (by show W.heap.size < _; simp) _).setLow (by show W.heap.size < _; simp) _)) (fun q hq => by
             have h1 := hV9.2 q (by simpa using hq)
             refine ⟨?_, h1.2⟩
             rw [h1.1]
             exact (List.getElem?_eq_getElem (by simpa using hq)).symm)
           go_wp2_with fail
           go_meet
           exact ⟨_, own', V, C, rfl, hM, by rw [← hz]; exact ((((((((hbA'.setCell (Nat.le_refl _) _).setCell (Nat.le_refl _) _).setCell (Nat.le_refl _) _).setCell (Nat.le_refl _) _).setCell (Nat.le_refl _) _).setCell (Nat.le_refl _) _).setCell (Nat.le_refl _) _).setCell (Nat.le_refl _) _)⟩)
  case rest =>
    obtain ⟨m, own, V, C, rfl, M, hbW⟩ := hcut
    have hz := Hz.out
    have HM : Hid (Mac (w.heap.size + 3) m 1 (prOf (pv0 (.slice Ap p.length ap))) own wc V C s) := M
    have HbW : Hid (Below W.heap.size W wc) := by rw [hz]; exact hbW
    have HbC : Hid (Below w.heap.size w wc) := HW2.out.trans (HbW.out.mono HW2.out.size)
    -- how it ends: from whatever machine, the answer
    have HE : Hid (∀ wf s' vq, MacI (w.heap.size + 3) m vq wf s' → Below (w.heap.size + 3) wc wf → RunIs p s s' → Small s' → ∃ E1 e1 E2 e2 E3 e3, EndQ (w.heap.size + 3) (w.heap.size + 1 + 1) w m p s s' wf (.slice E1 s'.frames.length e1) (.slice E2 s'.heap.length e2) (.slice E3 s'.out.length e3)) := fun wf s' vq hI hb hst hsm => by
      obtain ⟨own2, V2, C2, M2⟩ := hI
      have hR : VRow wf (w.heap.size + 1 + 1) _ := (HR3.out.below HbW.out).upTo hb (by omega)
      exact end_q M2 hsm hst hR (by omega) (by omega) (HbC.out.trans (hb.mono (by omega)))
    have hSR := implStRight (.slice Ap p.length ap) (.slice A1 s.frames.length a1) (.slice A2 s.heap.length a2) (.slice A3 s.out.length a3) p s wc (Ht.out.below HbC.out) (Hr.out.below HbC.out) ⟨Hs.out.1.below HbC.out, Hs.out.2.1.below HbC.out, Hs.out.2.2.below HbC.out⟩ Hok.out
    unfold stV at hSR
    have HSR : Hid (Calls Tryz.prog 62 _ wc fun e w' => FrTold (StRightI p s) wc w' e) := hSR
    obtain ⟨y0, y1, y2, y3, y4, y5, y6, y7⟩ := HS.out wc HbW.out
    have hmlt := M.lt
    have hmU := M.base
    clear hSR M hbW hz
    go_wp2_with fail
    refine Calls.mono (R := fun e w' => FrTold (StRightI p s) wc w' e) HSR.out ?_
    rintro e w1 ⟨b, rfl, hb1, hiff⟩
    have Hb1 : Hid (Below wc.heap.size wc w1) := hb1
    have HM1 : Hid (Mac (w.heap.size + 3) m 1 (prOf (pv0 (.slice Ap p.length ap))) own w1 V C s) := HM.out.below hb1
    have hU : w.heap.size + 3 ≤ wc.heap.size := by omega
    clear hb1 y0 y1 y2 y3 y4 y5 y6 y7 HSR
    cases b with
    | false =>
      have hst : RunIs p s s := .inr ⟨fun h => by simpa using hiff.2 h, rfl⟩
      clear hiff
      obtain ⟨E1, e1, E2, e2, E3, e3, hE⟩ := HE.out w1 s _ ⟨_, _, _, HM1.out⟩ (Hb1.out.mono hU) hst (small_of_bulk Hn.out)
      have HEE : Hid (EndQ _ _ _ _ _ _ _ _ _ _ _) := hE
      have d0 := hE.c0
      have d1 := hE.c1
      have d2 := hE.c2
      have d3 := hE.c3
      have d4 := hE.c4
      have d5 := hE.c5
      have d6 := hE.c6
      have dz := hE.lt
      obtain ⟨r0, f0⟩ := hE.res.2 0 (by simp)
      obtain ⟨r1, f1⟩ := hE.res.2 1 (by simp)
      obtain ⟨r2, f2⟩ := hE.res.2 2 (by simp)
      obtain ⟨r3, f3⟩ := hE.res.2 3 (by simp)
      obtain ⟨r4, f4⟩ := hE.res.2 4 (by simp)
      obtain ⟨r5, f5⟩ := hE.res.2 5 (by simp)
      obtain ⟨r6, f6⟩ := hE.res.2 6 (by simp)
      have rz := hE.res.1
      simp only [List.getElem_cons_succ, List.getElem_cons_zero] at r0 r1 r2 r3 r4 r5 r6
      clear hE HE
      go_wp2_with fail
      obtain ⟨z0, _⟩ := HEE.out.out.2 0 (by simp)
      obtain ⟨z1, _⟩ := HEE.out.out.2 1 (by simp)
      obtain ⟨z2, _⟩ := HEE.out.out.2 2 (by simp)
      obtain ⟨z3, _⟩ := HEE.out.out.2 3 (by simp)
      obtain ⟨z4, _⟩ := HEE.out.out.2 4 (by simp)
      obtain ⟨z5, _⟩ := HEE.out.out.2 5 (by simp)
      obtain ⟨z6, _⟩ := HEE.out.out.2 6 (by simp)
      simp only [List.getElem_cons_succ, List.getElem_cons_zero] at z0 z1 z2 z3 z4 z5 z6
      refine bodyPost_ret (v := .agg #[.slice E1 s.frames.length e1, .slice E2 s.heap.length e2, .slice E3 s.out.length e3, .int .i64 s.fuel, .bool s.done, .int .i64 s.value, .int .i64 s.trap]) (by simp [results, Tryz.results25, go_sem, z0, z1, z2, z3, z4, z5, z6]) rfl ?_
      exact HEE.out.told
    | true =>
      have Hright : Hid (StRightI p s) := hiff.1 rfl
      have Hf : Hid (s.fuel.toNat ≤ 3000) := by have := restOk_iff.1 Hright.out.2.1; show s.fuel.toNat ≤ 3000; omega
      have hD := implDoings m w1
      have HD : Hid (Calls Tryz.prog 65 #[.pointer (some ⟨m, 0, none⟩)] w1 fun e w' => DoingsTold m w1 w' e) := hD
      clear hiff hD
      go_wp2_with fail
      refine Calls.mono (R := fun e w' => DoingsTold m w1 w' e) HD.out ?_
      rintro e w2 ⟨rfl, hb2, hDl, hDc⟩
      have hM2 : Mac (w.heap.size + 3) m 1 (prOf ⟨.slice Ap p.length ap, fxD w1.heap.size m⟩) (cutOwn w1.heap.size own) w2 V C s := (HM1.out.cutOwn.below hb2).fixD (D := w1.heap.size) (fun j => by show (if w1.heap.size < w1.heap.size then _ else _) = _; rw [if_neg (Nat.lt_irrefl _)]) (by have := HM1.out.lt; omega) (Nat.le_of_lt (Nat.lt_of_le_of_lt HM1.out.base HM1.out.lt)) hDl hDc
      have HM2 : Hid (MacI (w.heap.size + 3) m ⟨.slice Ap p.length ap, fxD w1.heap.size m⟩ w2 s) := ⟨_, _, _, hM2⟩
      have Hb02 : Hid (Below (w.heap.size + 3) wc w2) := (Hb1.out.mono hU).trans (hb2.mono (Nat.le_trans hU Hb1.out.size))
      clear hM2 hb2 hDc hDl HD
      obtain ⟨D, hDe⟩ : ∃ D, D = w1.heap.size := ⟨_, rfl⟩
      rw [← hDe] at HM2
      rw [← hDe]
      clear hDe
      go_wp2_with fail
      go_loopg [] 3000 (fun g wr => ∃ t : StM, MacI (w.heap.size + 3) m ⟨.slice Ap p.length ap, fxD D m⟩ wr t ∧ Below (w.heap.size + 3) wc wr ∧ StRightI p t ∧ runM p t.fuel.toNat t = runM p s.fuel.toNat s ∧ t.fuel.toNat ≤ g)
      case atStart => exact ⟨s, HM2.out, Hb02.out, Hright.out, rfl, Hf.out⟩
      case round =>
        obtain ⟨t, hMt, hbt, hrt, hrun, hfg⟩ := hrel
        have HMt : Hid (MacI (w.heap.size + 3) m ⟨.slice Ap p.length ap, fxD D m⟩ wr t) := hMt
        have Hbt : Hid (Below (w.heap.size + 3) wc wr) := hbt
        have Hrt : Hid (StRightI p t) := hrt
        have Hrun : Hid (runM p t.fuel.toNat t = runM p s.fuel.toNat s) := hrun
        have Hfg : Hid (t.fuel.toNat ≤ gk) := hfg
        obtain ⟨own2, V2, C2, M2⟩ := hMt
        have g4 := (M2.cs 3 (by omega)).1
        have g5 := (M2.cs 4 (by omega)).1
        have gl := M2.lt
        simp only [mcells] at g4 g5
        have hcan := implCan m t.done t.fuel wr gl (by simpa using g5) (by simpa using g4)
        have Hcan : Hid (Calls Tryz.prog 63 #[.pointer (some ⟨m, 0, none⟩)] wr fun e w' => e = .returned (.bool (goesM t)) ∧ w' = wr) := hcan
        clear hcan g4 g5 M2 hbt hrt hrun hfg HM2 Hb02 Hf
        go_wp2_with fail
        refine Calls.mono (R := fun e w' => e = .returned (.bool (goesM t)) ∧ w' = wr) Hcan.out ?_
        rintro e wx ⟨rfl, hwx⟩
        subst wx
        clear Hcan
        cases hg : goesM t with
        | false =>
          have hst : RunIs p s t := .inl ⟨Hright.out, by rw [← Hrun.out, runM_stays hg]⟩
          have hsm : Small t := Hrt.out.small
          clear hg
          obtain ⟨E1, e1, E2, e2, E3, e3, hE⟩ := HE.out wr t _ HMt.out Hbt.out hst hsm
          have HEE : Hid (EndQ _ _ _ _ _ _ _ _ _ _ _) := hE
          have d0 := hE.c0
          have d1 := hE.c1
          have d2 := hE.c2
          have d3 := hE.c3
          have d4 := hE.c4
          have d5 := hE.c5
          have d6 := hE.c6
          have dz := hE.lt
          obtain ⟨r0, f0⟩ := hE.res.2 0 (by simp)
          obtain ⟨r1, f1⟩ := hE.res.2 1 (by simp)
          obtain ⟨r2, f2⟩ := hE.res.2 2 (by simp)
          obtain ⟨r3, f3⟩ := hE.res.2 3 (by simp)
          obtain ⟨r4, f4⟩ := hE.res.2 4 (by simp)
          obtain ⟨r5, f5⟩ := hE.res.2 5 (by simp)
          obtain ⟨r6, f6⟩ := hE.res.2 6 (by simp)
          have rz := hE.res.1
          simp only [List.getElem_cons_succ, List.getElem_cons_zero] at r0 r1 r2 r3 r4 r5 r6
          clear hE HE
          go_wp2_with fail
          obtain ⟨z0, _⟩ := HEE.out.out.2 0 (by simp)
          obtain ⟨z1, _⟩ := HEE.out.out.2 1 (by simp)
          obtain ⟨z2, _⟩ := HEE.out.out.2 2 (by simp)
          obtain ⟨z3, _⟩ := HEE.out.out.2 3 (by simp)
          obtain ⟨z4, _⟩ := HEE.out.out.2 4 (by simp)
          obtain ⟨z5, _⟩ := HEE.out.out.2 5 (by simp)
          obtain ⟨z6, _⟩ := HEE.out.out.2 6 (by simp)
          simp only [List.getElem_cons_succ, List.getElem_cons_zero] at z0 z1 z2 z3 z4 z5 z6
          refine bodyPost_ret (v := .agg #[.slice E1 t.frames.length e1, .slice E2 t.heap.length e2, .slice E3 t.out.length e3, .int .i64 t.fuel, .bool t.done, .int .i64 t.value, .int .i64 t.trap]) (by simp [results, Tryz.results25, go_sem, z0, z1, z2, z3, z4, z5, z6]) rfl ?_
          exact HEE.out.told
        | true =>
          have Hg : Hid (goesM t = true) := hg
          obtain ⟨low, f, i, j, hs, hS⟩ := stand Hrt.out Hg.out
          have hfu : 0 < t.fuel := hS.fuel.1
          obtain ⟨own2, V2, C2, M2⟩ := HMt.out
          obtain ⟨q1, q2, -, q4, -, -⟩ := M2.pre.2.2 D 1 (fnV m (doF 1)) (fxD_at D m 1 (.inl ⟨by omega, by omega⟩))
          have hstep := implStep hS Hrt.out.stk (w.heap.size + 3) m D ⟨.slice Ap p.length ap, fxD D m⟩ own2 V2 C2 wr M2 (fun w' hb => by
            have hb' : Below w.heap.size w w' := HbC.out.trans ((Hbt.out.trans hb).mono (by omega))
            exact ⟨Hr.out.below hb', Ht.out.below hb'⟩) q1 q2 q4 (fun op hop => (M2.pre.2.2 D op (fnV m (doF op)) (fxD_at D m op hop)).2.2.2.2.1)
          have Hstep : Hid (Calls Tryz.prog 64 #[.pointer (some ⟨m, 0, none⟩), .slice (some ⟨D, 0, none⟩) 39 39] wr fun e w' => MacTold (w.heap.size + 3) m ⟨.slice Ap p.length ap, fxD D m⟩ (stepM p t) (.tuple #[]) wr w' e) := hstep
          have Hfu : Hid (0 < t.fuel) := hfu
          clear hstep hS hg hfu M2 q1 q2 q4
          go_wp2_with fail
          refine Calls.mono (R := fun e w' => MacTold (w.heap.size + 3) m ⟨.slice Ap p.length ap, fxD D m⟩ (stepM p t) (.tuple #[]) wr w' e) Hstep.out ?_
          rintro e w3 ⟨rfl, hI3, hb3⟩
          have HR : Hid (∃ t' : StM, MacI (w.heap.size + 3) m ⟨.slice Ap p.length ap, fxD D m⟩ w3 t' ∧ Below (w.heap.size + 3) wc w3 ∧ StRightI p t' ∧ runM p t'.fuel.toNat t' = runM p s.fuel.toNat s ∧ t'.fuel.toNat + 1 ≤ gk) := by
            have h1 := Hfg.out
            have h2 := Hfu.out
            have hf := stepM_fuel p t
            refine ⟨stepM p t, hI3, Hbt.out.trans hb3, stepM_right Hrt.out Hg.out, ?_, by omega⟩
            rw [← Hrun.out]
            obtain ⟨k, hk⟩ : ∃ k, t.fuel.toNat = k + 1 := ⟨t.fuel.toNat - 1, by omega⟩
            rw [hk, runM_goes Hg.out]
            have : (stepM p t).fuel.toNat = k := by omega
            rw [this]
          clear hI3 hb3 Hstep Hfg Hfu gl
          go_wp2_with fail
          go_roundg (gk - 1)
          case rel =>
            obtain ⟨t', a1, a2, a3, a4, a5⟩ := HR.out
            exact ⟨t', a1, a2, a3, a4, by omega⟩
          case measure =>
            obtain ⟨t', a1, a2, a3, a4, a5⟩ := HR.out
            omega
end Go.Proofs.YtnknnncehcofnaaGreatDoor
