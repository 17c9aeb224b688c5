/- spec.l06Copy. -/
import Derived.Test.YtnknnncehcofnaaGreatDoorJ31CopyS
import Derived.Test.YtnknnncehcofnaaGreatDoorStepI
namespace Go.Proofs.YtnknnncehcofnaaGreatDoor
open Go.RowKit

/-- the state so far: i frames, k arrays -/
def partS (s : StM) (i k : Nat) : StM := ⟨s.frames.take i, s.heap.take k, s.out, s.fuel, s.done, s.value, s.trap⟩

def Bare (U : Nat) (s : StM) (W wd : World) (x : Value) : Prop := ∃ m own V C, x = .pointer (some ⟨m, 0, none⟩) ∧ Mac U m 0 noPr own wd V C (partS s 0 0) ∧ Below U W wd

def CopySS (s : StM) (w w' : World) (e : Ending) : Prop := ∃ x y z own X Y Z, e = .returned (stV x y z s) ∧ OwnSt own w.heap.size w' x y z s X Y Z ∧ Below w.heap.size w w'

theorem Holds.lower {B B' size : Nat} {w : World} {v : Value} {cs : List Value} (h : Holds B w v cs size) (hB : B' ≤ B) : Holds B' w v cs size := by
  obtain ⟨A, n, cap, e, h1, h2, h3⟩ := h
  refine ⟨A, n, cap, e, h1, h2, fun j hj => ?_⟩
  obtain ⟨b, off, k1, k2, k3⟩ := h3 j hj
  exact ⟨b, off, k1, Nat.le_trans hB k2, k3⟩

theorem Holds.setLow {B size : Nat} {w : World} {v : Value} {cs : List Value} (h : Holds B w v cs size) {q : Addr} (hq : q.block < B) (u : Value) : Holds B (w.setCell q u) v cs size := by
  obtain ⟨A, n, cap, e, h1, h2, h3⟩ := h
  refine ⟨A, n, cap, e, h1, h2, fun j hj => ?_⟩
  obtain ⟨b, off, k1, k2, k3, k4⟩ := h3 j hj
  exact ⟨b, off, k1, k2, by simpa using k3, by rw [World.cell?_setCell_other _ _ _ _ (by intro e; rw [e] at hq; exact absurd k2 (Nat.not_le_of_lt hq))]; exact k4⟩

theorem Mac.frForm {B m d : Nat} {pr : Pr} {own : Nat → Nat → Tag} {w : World} {V : Tag → Value} {C : Tag → List Value} {s : StM} (M : Mac B m d pr own w V C s) : ∃ A c, V .fr = .slice A s.frames.length c := by
  obtain ⟨A, n, c, hv⟩ := (M.l.row .fr trivial).form
  have hl := ((M.l.row .fr trivial).len hv).1
  have hlf := M.k.frames_len
  simp only [szT] at hl
  obtain rfl : n = s.frames.length := by omega
  exact ⟨A, c, hv⟩

theorem partS_frames (s : StM) (i k : Nat) (hi : i < s.frames.length) : { partS s i k with frames := (partS s i k).frames ++ [s.frames[i]] } = partS s (i + 1) k := by
  unfold partS
  simp only [StM.mk.injEq, and_self, and_true]
  rw [List.take_succ_eq_append_getElem hi]
theorem partS_heap (s : StM) (i k : Nat) (hk : k < s.heap.length) : { partS s i k with heap := (partS s i k).heap ++ [s.heap[k]] } = partS s i (k + 1) := by
  unfold partS
  simp only [StM.mk.injEq, and_self, true_and]
  rw [List.take_succ_eq_append_getElem hk]
  exact ⟨rfl, trivial⟩
theorem partS_fl (s : StM) (i k : Nat) (hi : i ≤ s.frames.length) : (partS s i k).frames.length = i := by unfold partS; simp; omega
theorem partS_hl (s : StM) (i k : Nat) (hk : k ≤ s.heap.length) : (partS s i k).heap.length = k := by unfold partS; simp; omega
theorem partS_all (s : StM) : partS s s.frames.length s.heap.length = s := by unfold partS; simp

/-- the end of l06Copy: what is read, what is told -/
structure EndC (R : Nat) (w : World) (m : Nat) (s : StM) (wf : World) (v1 v2 v3 : Value) : Prop where
  c0 : wf.cell? ⟨m, 0, none⟩ = some v1
  c1 : wf.cell? ⟨m, 1, none⟩ = some v2
  c2 : wf.cell? ⟨m, 2, none⟩ = some v3
  c3 : wf.cell? ⟨m, 3, none⟩ = some (.int .i64 s.fuel)
  c4 : wf.cell? ⟨m, 4, none⟩ = some (.bool s.done)
  c5 : wf.cell? ⟨m, 5, none⟩ = some (.int .i64 s.value)
  c6 : wf.cell? ⟨m, 6, none⟩ = some (.int .i64 s.trap)
  lt : m < wf.heap.size
  res : VRow wf R [.slice none 0 0, .slice none 0 0, .slice none 0 0, .int .i64 0, .bool false, .int .i64 0, .int .i64 0]
  out : VRow (((((((wf.setCell ⟨R, 0, none⟩ v1).setCell ⟨R, 1, none⟩ v2).setCell ⟨R, 2, none⟩ v3).setCell ⟨R, 3, none⟩ (.int .i64 s.fuel)).setCell ⟨R, 4, none⟩ (.bool s.done)).setCell ⟨R, 5, none⟩ (.int .i64 s.value)).setCell ⟨R, 6, none⟩ (.int .i64 s.trap)) R [v1, v2, v3, .int .i64 s.fuel, .bool s.done, .int .i64 s.value, .int .i64 s.trap]
  told : CopySS s w (((((((wf.setCell ⟨R, 0, none⟩ v1).setCell ⟨R, 1, none⟩ v2).setCell ⟨R, 2, none⟩ v3).setCell ⟨R, 3, none⟩ (.int .i64 s.fuel)).setCell ⟨R, 4, none⟩ (.bool s.done)).setCell ⟨R, 5, none⟩ (.int .i64 s.value)).setCell ⟨R, 6, none⟩ (.int .i64 s.trap)) (.returned (.agg #[v1, v2, v3, .int .i64 s.fuel, .bool s.done, .int .i64 s.value, .int .i64 s.trap]))

theorem end_copy {U R m : Nat} {pr : Pr} {own : Nat → Nat → Tag} {w wf : World} {V : Tag → Value} {C : Tag → List Value} {s : StM} (M : Mac U m 0 pr own wf V C s) (hsm : Small s)
    (hR : VRow wf R [.slice none 0 0, .slice none 0 0, .slice none 0 0, .int .i64 0, .bool false, .int .i64 0, .int .i64 0]) (hRU : R < U) (hwR : w.heap.size ≤ R) (hb : Below w.heap.size w wf) :
    ∃ E1 e1 E2 e2 E3 e3, EndC R w m s wf (.slice E1 s.frames.length e1) (.slice E2 s.heap.length e2) (.slice E3 s.out.length e3) := by
  have hO := M.l.state M.k hsm
  obtain ⟨E1, e1, h1⟩ := hO.stRow.1.form
  obtain ⟨E2, e2, h2⟩ := hO.stRow.2.1.form
  obtain ⟨E3, e3, h3⟩ := hO.stRow.2.2.form
  have k0 := (M.cs 0 (by omega)).1
  have k1 := (M.cs 1 (by omega)).1
  have k2 := (M.cs 2 (by omega)).1
  have k3 := (M.cs 3 (by omega)).1
  have k4 := (M.cs 4 (by omega)).1
  have k5 := (M.cs 5 (by omega)).1
  have k6 := (M.cs 6 (by omega)).1
  simp only [mcells, Nat.zero_add] at k0 k1 k2 k3 k4 k5 k6
  rw [h1, h2, h3] at k0 k1 k2 k3 k4 k5 k6
  rw [h1, h2, h3] at hO
  refine ⟨E1, e1, E2, e2, E3, e3, ⟨by simpa using k0, by simpa using k1, by simpa using k2, by simpa using k3, by simpa using k4, by simpa using k5, by simpa using k6, M.lt, hR, ?_, ?_⟩⟩
  · have := ((((((hR.set_at 0 (.slice E1 s.frames.length e1) (by simp)).set_at 1 (.slice E2 s.heap.length e2) (by simp)).set_at 2 (.slice E3 s.out.length e3) (by simp)).set_at 3 (.int .i64 s.fuel) (by simp)).set_at 4 (.bool s.done) (by simp)).set_at 5 (.int .i64 s.value) (by simp)).set_at 6 (.int .i64 s.trap) (by simp)
    simpa only [List.set_cons_succ, List.set_cons_zero] using this
  · exact ⟨_, _, _, own, _, _, _, rfl, (((((((hO.setLow (by exact hRU) _).setLow (by exact hRU) _).setLow (by exact hRU) _).setLow (by exact hRU) _).setLow (by exact hRU) _).setLow (by exact hRU) _).setLow (by exact hRU) _).lower (by omega), ((((((hb.setCell hwR _).setCell hwR _).setCell hwR _).setCell hwR _).setCell hwR _).setCell hwR _).setCell hwR _⟩

set_option maxRecDepth 100000 in
set_option maxHeartbeats 3200000 in
theorem specCopySt (x y z : Value) (s : StM) (w : World) (hs : StRow 0 w x y z s) (hn : s.bulk ≤ 1048576) :
    Calls Tryz.prog 53 #[stV x y z s] w fun e w' => CopySS s w w' e := by
  have Hs : Hid (StRow 0 w x y z s) := hs
  have Hn : Hid (s.bulk ≤ 1048576) := hn
  have hbf : bulkF s.frames ≤ 1048576 ∧ bulkH s.heap ≤ 1048576 ∧ s.out.length ≤ 1048576 := by unfold StM.bulk at hn; omega
  have hfl : s.frames.length ≤ 1048576 := by have := hbf.1; unfold bulkF at this; omega
  have hhl : s.heap.length ≤ 1048576 := by have := hbf.2.1; unfold bulkH at this; omega
  have Hsm : Hid (Small s) := small_of_bulk hn
  have hol : s.out.length ≤ 1048576 := hbf.2.2
  obtain ⟨A1, a1, rfl⟩ := hs.1.form
  obtain ⟨A2, a2, rfl⟩ := hs.2.1.form
  obtain ⟨A3, a3, rfl⟩ := hs.2.2.form
  clear hs hn hbf
  obtain ⟨o2, ho2⟩ : ∃ o, o = Obj.cells #[.slice A1 s.frames.length a1, .slice A2 s.heap.length a2, .slice A3 s.out.length a3, .int .i64 s.fuel, .bool s.done, .int .i64 s.value, .int .i64 s.trap] 45 := ⟨_, rfl⟩
  obtain ⟨o3, ho3⟩ : ∃ o, o = Obj.cells #[.slice none 0 0, .slice none 0 0, .slice none 0 0, .int .i64 0, .bool false, .int .i64 0, .int .i64 0] 45 := ⟨_, rfl⟩
  have hW2 : Below w.heap.size w ((w.alloc o2).alloc o3) := ((Below.refl _ _).alloc (Nat.le_refl _) _).alloc (by simp) _
  have hz : ((w.alloc o2).alloc o3).heap.size = w.heap.size + 2 := by simp
  have hR2 : VRow ((w.alloc o2).alloc o3) w.heap.size [.slice A1 s.frames.length a1, .slice A2 s.heap.length a2, .slice A3 s.out.length a3, .int .i64 s.fuel, .bool s.done, .int .i64 s.value, .int .i64 s.trap] := by
    subst ho2
    exact (vrow_new w #[.slice A1 s.frames.length a1, .slice A2 s.heap.length a2, .slice A3 s.out.length a3, .int .i64 s.fuel, .bool s.done, .int .i64 s.value, .int .i64 s.trap] 45).below ((Below.refl _ _).alloc (Nat.le_refl _) o3)
  have hR3 : VRow ((w.alloc o2).alloc o3) (w.heap.size + 1) [.slice none 0 0, .slice none 0 0, .slice none 0 0, .int .i64 0, .bool false, .int .i64 0, .int .i64 0] := by
    subst ho3
    have := vrow_new (w.alloc o2) #[.slice none 0 0, .slice none 0 0, .slice none 0 0, .int .i64 0, .bool false, .int .i64 0, .int .i64 0] 45
    simpa using this
  obtain ⟨W, hW⟩ : ∃ W, W = (w.alloc o2).alloc o3 := ⟨_, rfl⟩
  rw [← hW] at hW2 hz hR2 hR3
  have HW2 : Hid (Below w.heap.size w W) := hW2
  have HR2 : Hid (VRow W w.heap.size _) := hR2
  have HR3 : Hid (VRow W (w.heap.size + 1) _) := hR3
  have Hz : Hid (W.heap.size = w.heap.size + 2) := hz
  subst ho2
  subst ho3
  clear hW2 hz hR2 hR3
  unfold stV
  go_enter Tryz.func53, Tryz.ntmps53
  go_upto_region 1 with fail
  rw [← hW]
  clear hW
  have HS : Hid (∀ W', Below W.heap.size W W' → W'.cell? ⟨w.heap.size, 0, none⟩ = some (.slice A1 s.frames.length a1) ∧ W'.cell? ⟨w.heap.size, 1, none⟩ = some (.slice A2 s.heap.length a2) ∧ W'.cell? ⟨w.heap.size, 2, none⟩ = some (.slice A3 s.out.length a3) ∧ W'.cell? ⟨w.heap.size, 3, none⟩ = some (.int .i64 s.fuel) ∧ W'.cell? ⟨w.heap.size, 4, none⟩ = some (.bool s.done) ∧ W'.cell? ⟨w.heap.size, 5, none⟩ = some (.int .i64 s.value) ∧ W'.cell? ⟨w.heap.size, 6, none⟩ = some (.int .i64 s.trap)) := fun W' hb => by
    have h2 := HR2.out.below hb
    exact ⟨(h2.2 0 (by simp)).1, (h2.2 1 (by simp)).1, (h2.2 2 (by simp)).1, (h2.2 3 (by simp)).1, (h2.2 4 (by simp)).1, (h2.2 5 (by simp)).1, (h2.2 6 (by simp)).1⟩
  go_cut [3] from 6 to 54 (fun q wd => Bare (w.heap.size + 2) s W wd q)
  case first =>
    have hb0 : Below W.heap.size W W.drew := (Below.refl _ _).drew
    have HC : Hid (∀ W', Below W.heap.size W W' → Calls Tryz.prog 104 #[.slice A3 s.out.length a3] W' fun e w' => NumsTold s.out W' w' e) := fun W' hb => by
      have hb' := HW2.out.trans (hb.mono HW2.out.size)
      exact specNums (.slice A3 s.out.length a3) s.out W' (Hs.out.2.2.below hb') hol
    have HY0 : Hid (_ ∧ _) := HS.out _ hb0
    have hbB : Below W.heap.size W (W.alloc (.cells #[.slice none 0 0, .slice none 0 0, .slice none 0 0, .int .i64 0, .bool false, .int .i64 0, .int .i64 0] 45)).drew := ((Below.refl _ _).alloc (Nat.le_refl _) _).drew
    have HYB : Hid (_ ∧ _) := HS.out _ hbB
    go_region_held3 (fun w' => w'.cell? ⟨w.heap.size, 0, none⟩ = some (.slice A1 s.frames.length a1) ∧ w'.cell? ⟨w.heap.size, 1, none⟩ = some (.slice A2 s.heap.length a2) ∧ w'.cell? ⟨w.heap.size, 2, none⟩ = some (.slice A3 s.out.length a3) ∧ w'.cell? ⟨w.heap.size, 3, none⟩ = some (.int .i64 s.fuel) ∧ w'.cell? ⟨w.heap.size, 4, none⟩ = some (.bool s.done) ∧ w'.cell? ⟨w.heap.size, 5, none⟩ = some (.int .i64 s.value) ∧ w'.cell? ⟨w.heap.size, 6, none⟩ = some (.int .i64 s.trap))
      (first | (with_reducible exact HY0.out) | (with_reducible exact HYB.out) | (with_reducible exact HYA.out) | (with_reducible exact HYA2.out) | (with_reducible exact HYA3.out) | (with_reducible exact HYB3.out))
      (first
        | (go_at_call 104; refine Calls.mono (HC.out _ ?hb) ?_
           case hb => with_reducible exact hb0
           rintro e wA ⟨v3, rfl, hO, hbA⟩
           obtain ⟨B3, b3, rfl⟩ := (IRow.of_owns hO (by omega)).form
           have hbA' : Below W.heap.size W wA := hb0.trans (hbA.mono hb0.size)
           have HYA : Hid (_ ∧ _) := HS.out wA hbA'
           have HYA2 : Hid (_ ∧ _) := HS.out _ (hbA'.alloc hbA'.size (.cells #[.slice none 0 0, .slice none 0 0, .slice none 0 0, .int .i64 0, .bool false, .int .i64 0, .int .i64 0] 45))
           have HYA3 : Hid (_ ∧ _) := HS.out (wA.alloc (.cells #[.slice none 0 0, .slice none 0 0, .slice B3 s.out.length b3, .int .i64 s.fuel, .bool s.done, .int .i64 s.value, .int .i64 s.trap] 45)) (hbA'.alloc hbA'.size _))
        | (go_at_call 104; refine Calls.mono (HC.out _ ?hb) ?_
           case hb => with_reducible exact hbB
           rintro e wA ⟨v3, rfl, hO, hbA⟩
           obtain ⟨B3, b3, rfl⟩ := (IRow.of_owns hO (by omega)).form
           have hbA' : Below W.heap.size W wA := hbB.trans (hbA.mono (by simp))
           have HYA : Hid (_ ∧ _) := HS.out wA hbA'
           have hV8 : VRow wA W.heap.size [.slice none 0 0, .slice none 0 0, .slice none 0 0, .int .i64 0, .bool false, .int .i64 0, .int .i64 0] := ((vrow_new W #[.slice none 0 0, .slice none 0 0, .slice none 0 0, .int .i64 0, .bool false, .int .i64 0, .int .i64 0] 45).below (Below.refl _ _).drew).below hbA
           obtain ⟨n0, f0⟩ := hV8.2 0 (by simp)
           obtain ⟨n1, f1⟩ := hV8.2 1 (by simp)
           obtain ⟨n2, f2⟩ := hV8.2 2 (by simp)
           obtain ⟨n3, f3⟩ := hV8.2 3 (by simp)
           obtain ⟨n4, f4⟩ := hV8.2 4 (by simp)
           obtain ⟨n5, f5⟩ := hV8.2 5 (by simp)
           obtain ⟨n6, f6⟩ := hV8.2 6 (by simp)
           have nz := hV8.1
           have HYB3 : Hid (_ ∧ _) := HS.out (((((((wA.setCell ⟨W.heap.size, 0, none⟩ (.slice none 0 0)).setCell ⟨W.heap.size, 1, none⟩ (.slice none 0 0)).setCell ⟨W.heap.size, 2, none⟩ (.slice B3 s.out.length b3)).setCell ⟨W.heap.size, 3, none⟩ (.int .i64 s.fuel)).setCell ⟨W.heap.size, 4, none⟩ (.bool s.done)).setCell ⟨W.heap.size, 5, none⟩ (.int .i64 s.value)).setCell ⟨W.heap.size, 6, none⟩ (.int .i64 s.trap)) (((((((hbA'.setCell (Nat.le_refl _) _).setCell (Nat.le_refl _) _).setCell (Nat.le_refl _) _).setCell (Nat.le_refl _) _).setCell (Nat.le_refl _) _).setCell (Nat.le_refl _) _).setCell (Nat.le_refl _) _)
           simp only [List.getElem_cons_succ, List.getElem_cons_zero] at n0 n1 n2 n3 n4 n5 n6))
    all_goals
      have hz := Hz.out
      have hI := IRow.of_owns hO (by omega)
      first
        | (have hV9 := vrow_new wA #[.slice none 0 0, .slice none 0 0, .slice B3 s.out.length b3, .int .i64 s.fuel, .bool s.done, .int .i64 s.value, .int .i64 s.trap] 45
           have hRm := Room.of_owns (own := fun b _ => if b = wA.heap.size then .no else .out) (t := .out) hO (fun g hg j => if_neg (by have := (hO.lt g hg).2; omega))
           have hH := Holds.of_irow hI hRm
           have hal : Below wA.heap.size wA (wA.alloc (.cells #[.slice none 0 0, .slice none 0 0, .slice B3 s.out.length b3, .int .i64 s.fuel, .bool s.done, .int .i64 s.value, .int .i64 s.trap] 45)) := (Below.refl _ _).alloc (Nat.le_refl _) _
           obtain ⟨V, C, hM⟩ := mac_bare (B := w.heap.size + 2) (d := 0) (m := wA.heap.size) (pr := noPr) (fuel := s.fuel) (done := s.done) (value := s.value) (trap := s.trap) ((hH.below hal).lower (by simp; omega)) ((hRm.below hal).lower (by simp; omega)) (fun j => if_pos rfl) (by have := hbA'.size; omega) (by simp) (fun q hq => by
             have h1 := hV9.2 q (by simpa using hq)
             rw [Nat.zero_add]
             refine ⟨?_, h1.2⟩
             rw [h1.1]
             exact (List.getElem?_eq_getElem (by simpa using hq)).symm) ⟨fun j hj => absurd hj (by omega), fun u hu => (by cases hu), fun b j u hu => by cases hu⟩
           go_wp2_with fail
           go_meet
           exact ⟨_, _, V, C, rfl, hM, by rw [← hz]; exact hbA'.alloc hbA'.size _⟩)
        | (have hV9 := (((((((hV8.set_at 0 (.slice none 0 0) (by simp)).set_at 1 (.slice none 0 0) (by simp)).set_at 2 (.slice B3 s.out.length b3) (by simp)).set_at 3 (.int .i64 s.fuel) (by simp)).set_at 4 (.bool s.done) (by simp)).set_at 5 (.int .i64 s.value) (by simp)).set_at 6 (.int .i64 s.trap) (by simp))
           simp only [List.set_cons_succ, List.set_cons_zero] at hV9
           have hRm := Room.of_owns (own := fun b _ => if b = W.heap.size then .no else .out) (t := .out) hO (fun g hg j => if_neg (by have := (hO.lt g hg).1; simp at this; omega))
           have hH := Holds.of_irow hI hRm
           obtain ⟨V, C, hM⟩ := mac_bare (B := w.heap.size + 2) (d := 0) (m := W.heap.size) (pr := noPr) (fuel := s.fuel) (done := s.done) (value := s.value) (trap := s.trap) ((((((((hH.setLow (by show W.heap.size < _; simp) _).setLow (by show W.heap.size < _; simp) _).setLow (by show W.heap.size < _; simp) _).setLow (by show W.heap.size < _; simp) _).setLow (by show W.heap.size < _; simp) _).setLow (by show W.heap.size < _; simp) _).setLow (by show W.heap.size < _; simp) _).lower (by simp; omega)) ((((((((hRm.setLow (by show W.heap.size < _; simp) _).setLow (by show W.heap.size < _; simp) _).setLow (by show W.heap.size < _; simp) _).setLow (by show W.heap.size < _; simp) _).setLow (by show W.heap.size < _; simp) _).setLow (by show W.heap.size < _; simp) _).setLow (by show W.heap.size < _; simp) _).lower (by simp; omega)) (fun j => if_pos rfl) (by omega) hV9.1 (fun q hq => by
             have h1 := hV9.2 q (by simpa using hq)
             rw [Nat.zero_add]
             refine ⟨?_, h1.2⟩
             rw [h1.1]
             exact (List.getElem?_eq_getElem (by simpa using hq)).symm) ⟨fun j hj => absurd hj (by omega), fun u hu => (by cases hu), fun b j u hu => by cases hu⟩
           go_wp2_with fail
           go_meet
           exact ⟨_, _, V, C, rfl, hM, by rw [← hz]; exact (((((((hbA'.setCell (Nat.le_refl _) _).setCell (Nat.le_refl _) _).setCell (Nat.le_refl _) _).setCell (Nat.le_refl _) _).setCell (Nat.le_refl _) _).setCell (Nat.le_refl _) _).setCell (Nat.le_refl _) _)⟩)
  case rest =>
    obtain ⟨m, own, V, C, rfl, M, hbW⟩ := hcut
    have HbW : Hid (Below W.heap.size W wc) := by rw [Hz.out]; exact hbW
    have HM : Hid (Mac (w.heap.size + 2) m 0 noPr own wc V C (partS s 0 0)) := M
    have hmU := M.base
    clear M hbW
    go_wp2_with fail
    go_loopg [4] s.frames.length (fun g i wr => ∃ (q : Nat) (own : Nat → Nat → Tag) (V : Tag → Value) (C : Tag → List Value), q ≤ s.frames.length ∧ i = .int .i64 (q : Int) ∧ s.frames.length ≤ q + g ∧ Mac (w.heap.size + 2) m 0 noPr own wr V C (partS s q 0) ∧ Below W.heap.size W wr)
    case atStart => exact ⟨0, own, V, C, Nat.zero_le _, rfl, by omega, HM.out, HbW.out⟩
    case round =>
      clear HM HbW
      obtain ⟨q, own, V, C, hq, rfl, hqg, hM, hb⟩ := hrel
      have HM : Hid (Mac (w.heap.size + 2) m 0 noPr own wr V C (partS s q 0)) := hM
      have Hb : Hid (Below W.heap.size W wr) := hb
      have Hbw : Hid (Below w.heap.size w wr) := HW2.out.trans (hb.mono HW2.out.size)
      obtain ⟨y0, y1, y2, y3, y4, y5, y6⟩ := HS.out wr hb
      clear hM hb
      by_cases hqn : q < s.frames.length
      · have hqI : (q : Int) < (s.frames.length : Int) := by omega
        obtain ⟨f, Hf⟩ : ∃ f, Hid (f = s.frames[q]) := ⟨s.frames[q], rfl⟩
        obtain ⟨bf, off, x, y, rfl, hlt, e0, e1, e2, e3, hx, hy⟩ := (Hs.out.1.below Hbw.out).at q hqn
        rw [← Hf.out] at e0 e1 hx hy
        obtain ⟨xa, xc, rfl⟩ := hx.form
        obtain ⟨ya, yc, rfl⟩ := hy.form
        obtain ⟨A, c, hv⟩ := HM.out.frForm
        rw [partS_fl s q 0 hq] at hv
        have m0 := (HM.out.cs 0 (by omega)).1
        have mf := (HM.out.cs 0 (by omega)).2
        have ml := HM.out.lt
        rw [Nat.add_zero] at m0 mf
        simp only [mcells, List.getElem?_cons_zero] at m0
        rw [hv] at m0
        have hb0 : Below wr.heap.size wr wr.drew := (Below.refl _ _).drew
        have hsm := Hsm.out.1 q hqn
        rw [← Hf.out] at hsm
        have HC : Hid (Calls Tryz.prog 105 #[.agg #[.int .i64 f.func, .int .i64 f.pc, .slice xa f.locals.length xc, .slice ya f.stack.length yc]] wr.drew fun e w' => SCopyFTold f wr.drew w' e) := specCopyF f _ _ wr.drew (hx.below hb0) (hy.below hb0) hsm.1 hsm.2
        have Hv : Hid (V .fr = .slice A q c) := hv
        have Hmw : Hid (w.heap.size + 2 ≤ wr.heap.size) := Nat.le_trans hmU (Nat.le_of_lt ml)
        clear hx hy hv hsm hb0
        go_upto_region 5 with fail
        go_region_law (first
          | (go_simp; go_at_call 105; refine Calls.mono (R := fun e w' => SCopyFTold f wr.drew w' e) HC.out ?_
             rintro e wA ⟨v, u, Mx, rfl, hMx, hv1, hu1, rv, ru, hbA⟩
             obtain ⟨Av, cv, rfl⟩ := hv1.form
             obtain ⟨Au, cu, rfl⟩ := hu1.form
             have hal : Below wA.heap.size wA (wA.alloc (.cells #[.int .i64 f.func, .int .i64 f.pc, .slice Av f.locals.length cv, .slice Au f.stack.length cu] 110)) := (Below.refl _ _).alloc (Nat.le_refl _) _
             have hbB := hbA.trans (hal.mono hbA.size)
             have hX := box_new wA #[.int .i64 f.func, .int .i64 f.pc, .slice Av f.locals.length cv, .slice Au f.stack.length cu] 110
             have hrv := (rv (fun b _ => if b < Mx then Tag.loc (partS s q 0).frames.length else .stk (partS s q 0).frames.length) (.loc (partS s q 0).frames.length) (fun b j h1 h2 => if_pos h2)).below hal
             have hru := ((ru (fun b _ => if b < Mx then Tag.loc (partS s q 0).frames.length else .stk (partS s q 0).frames.length) (.stk (partS s q 0).frames.length) (fun b j h1 => if_neg (by omega))).lower hMx).below hal
             obtain ⟨A', c', hv', b1, off1, cap1, w5, hrun, ⟨⟨u5, d0⟩, d1, d2⟩, hb5, own5, V5, C5, M5, hb6⟩ := (HM.out.below ((Below.refl wr.heap.size wr).drew)).frameAdd rfl (by rw [partS_fl s q 0 hq]; omega) hbB f Av Au _ cv _ cu (Holds.of_irow (hv1.below hal) hrv) (Holds.of_irow ((hu1.lower hMx).below hal) hru) hrv hru ⟨wA.heap.size, 0, none⟩ 43 hX.at0 hX.at1 hX.at2 (hX.2 3)
             rw [partS_fl s q 0 hq] at hv' hrun M5 hb6
             rw [Hv.out] at hv'
             simp only [Value.slice.injEq, true_and] at hv'
             obtain ⟨rfl, rfl⟩ := hv'
             have mA : wA.cell? ⟨m, 0, none⟩ = some (.slice A q c) := by rw [hbA.cell (by exact ml)]; exact m0
             have mB : (wA.alloc (.cells #[.int .i64 f.func, .int .i64 f.pc, .slice Av f.locals.length cv, .slice Au f.stack.length cu] 110)).cell? ⟨m, 0, none⟩ = some (.slice A q c) := by rw [hal.cell (by exact Nat.lt_of_lt_of_le ml hbA.size)]; exact mA
             have HM5 : Hid (Mac _ _ _ _ _ _ _ _ _) := M5
             have Hb6 : Hid (Below (w.heap.size + 2) wr.drew _) := hb6
             clear M5 hb6 hbB hrv hru hv1 hu1 rv ru)
          | (refine step_append_run rfl (.tmp 26) (.tmp 33) 43 rfl (.slice A q c) (.slice (some ⟨wA.heap.size, 0, none⟩) 1 1) (by simp [Act.eval]) (by simp [Act.eval]) _ _ hrun ?_))
        all_goals
          have hfin := HM5.out
          rw [Hf.out, partS_frames s q 0 hqn] at hfin
          have hbf := Hb.out.trans ((Below.refl W.heap.size wr).drew.trans (Hb6.out.mono (by rw [Hz.out]; exact Nat.le_refl _)))
          have HMf : Hid (Mac _ _ _ _ _ _ _ _ _) := hfin
          have HBf : Hid (Below W.heap.size W _) := hbf
          clear hfin hbf
          go_wp2_with fail
          go_roundg (gk - 1)
          case measure => omega
          case rel => exact ⟨q + 1, own5, V5, C5, by omega, by go_num, by omega, HMf.out, HBf.out⟩
      · have hqe : q = s.frames.length := by omega
        subst hqe
        clear hqg hq hqn
        go_wp2_with fail
        clear y0 y1 y2 y3 y4 y5 y6
        go_loopg [5] s.heap.length (fun g i wr => ∃ (k : Nat) (own : Nat → Nat → Tag) (V : Tag → Value) (C : Tag → List Value), k ≤ s.heap.length ∧ i = .int .i64 (k : Int) ∧ s.heap.length ≤ k + g ∧ Mac (w.heap.size + 2) m 0 noPr own wr V C (partS s s.frames.length k) ∧ Below W.heap.size W wr)
        case atStart => exact ⟨0, own, V, C, Nat.zero_le _, rfl, by omega, HM.out, Hb.out⟩
        case round =>
          clear HM Hb Hbw
          obtain ⟨k, own, V, C, hk, rfl, hkg, hM, hb⟩ := hrel
          have HM : Hid (Mac (w.heap.size + 2) m 0 noPr own wr V C (partS s s.frames.length k)) := hM
          have Hb : Hid (Below W.heap.size W wr) := hb
          have Hbw : Hid (Below w.heap.size w wr) := HW2.out.trans (hb.mono HW2.out.size)
          obtain ⟨y0, y1, y2, y3, y4, y5, y6⟩ := HS.out wr hb
          clear hM hb
          by_cases hkn : k < s.heap.length
          · have hkI : (k : Int) < (s.heap.length : Int) := by omega
            obtain ⟨l, Hl⟩ : ∃ l, Hid (l = s.heap[k]) := ⟨s.heap[k], rfl⟩
            obtain ⟨bf, off, x, rfl, hlt, e0, hx⟩ := (Hs.out.2.1.below Hbw.out).at k hkn
            rw [← Hl.out] at hx
            obtain ⟨xa, xc, rfl⟩ := hx.form
            obtain ⟨A, c, hv⟩ := HM.out.hpForm
            rw [partS_hl s s.frames.length k hk] at hv
            have m0 := (HM.out.cs 1 (by omega)).1
            have mf := (HM.out.cs 1 (by omega)).2
            have ml := HM.out.lt
            rw [Nat.zero_add] at m0 mf
            simp only [mcells, List.getElem?_cons_zero, List.getElem?_cons_succ] at m0
            rw [hv] at m0
            have hb0 : Below wr.heap.size wr wr.drew := (Below.refl _ _).drew
            have hsm := Hsm.out.2.1 k hkn
            rw [← Hl.out] at hsm
            have HC : Hid (Calls Tryz.prog 104 #[.slice xa l.length xc] wr.drew fun e w' => NumsTold l wr.drew w' e) := specNums _ l wr.drew (hx.below hb0) hsm
            have Hv : Hid (V .hp = .slice A k c) := hv
            have Hlm : Hid (l.length ≤ 1048576) := hsm
            clear hx hv hsm hb0
            go_upto_region 9 with fail
            go_region_law (first
              | (go_simp; go_at_call 104; refine Calls.mono (R := fun e w' => NumsTold l wr.drew w' e) HC.out ?_
                 rintro e wA ⟨v, rfl, hO, hbA⟩
                 have hv1 := IRow.of_owns hO (by have := Hlm.out; omega)
                 obtain ⟨Av, cv, rfl⟩ := hv1.form
                 have hal : Below wA.heap.size wA (wA.alloc (.cells #[.slice Av l.length cv] 28)) := (Below.refl _ _).alloc (Nat.le_refl _) _
                 have hbB := hbA.trans (hal.mono hbA.size)
                 have hX := box_new wA #[.slice Av l.length cv] 28
                 have hrv := (Room.of_owns (own := fun _ _ => Tag.arr (partS s s.frames.length k).heap.length) (t := .arr (partS s s.frames.length k).heap.length) hO (fun g hg j => rfl)).below hal
                 obtain ⟨A', c', hv', b1, off1, cap1, w5, hrun, ⟨⟨u5, d0⟩, d1, d2⟩, hb5, own5, V5, C5, M5, hb6⟩ := (HM.out.below ((Below.refl wr.heap.size wr).drew)).arrAdd (by rw [partS_hl s s.frames.length k hk]; omega) hbB l Av _ cv (Holds.of_irow (hv1.below hal) hrv) hrv ⟨wA.heap.size, 0, none⟩ 38 hX.at0
                 rw [partS_hl s s.frames.length k hk] at hv' hrun M5 hb6
                 rw [Hv.out] at hv'
                 simp only [Value.slice.injEq, true_and] at hv'
                 obtain ⟨rfl, rfl⟩ := hv'
                 rw [Nat.zero_add] at d0 d1 M5 hb6
                 have mA : wA.cell? ⟨m, 1, none⟩ = some (.slice A k c) := by rw [hbA.cell (by exact ml)]; exact m0
                 have mB : (wA.alloc (.cells #[.slice Av l.length cv] 28)).cell? ⟨m, 1, none⟩ = some (.slice A k c) := by rw [hal.cell (by exact Nat.lt_of_lt_of_le ml hbA.size)]; exact mA
                 have HM5 : Hid (Mac _ _ _ _ _ _ _ _ _) := M5
                 have Hb6 : Hid (Below (w.heap.size + 2) wr.drew _) := hb6
                 clear M5 hb6 hbB hrv hv1 hO)
              | (refine step_append_run rfl (.tmp 44) (.tmp 51) 38 rfl (.slice A k c) (.slice (some ⟨wA.heap.size, 0, none⟩) 1 1) (by simp [Act.eval]) (by simp [Act.eval]) _ _ hrun ?_))
            all_goals
              have hfin := HM5.out
              rw [Hl.out, partS_heap s s.frames.length k hkn] at hfin
              have hbf := Hb.out.trans ((Below.refl W.heap.size wr).drew.trans (Hb6.out.mono (by rw [Hz.out]; exact Nat.le_refl _)))
              have HMf : Hid (Mac _ _ _ _ _ _ _ _ _) := hfin
              have HBf : Hid (Below W.heap.size W _) := hbf
              clear hfin hbf
              go_wp2_with fail
              go_roundg (gk - 1)
              case measure => omega
              case rel => exact ⟨k + 1, own5, V5, C5, by omega, by go_num, by omega, HMf.out, HBf.out⟩
          · have hke : k = s.heap.length := by omega
            subst hke
            have hM := HM.out
            rw [partS_all] at hM
            have hz := Hz.out
            have hR : VRow wr (w.heap.size + 1) _ := HR3.out.below Hb.out
            obtain ⟨E1, e1, E2, e2, E3, e3, hE⟩ := end_copy hM Hsm.out hR (by omega) (by omega) Hbw.out
            have HEE : Hid (EndC _ _ _ _ _ _ _ _) := hE
            have d0 := hE.c0
            have d1 := hE.c1
            have d2 := hE.c2
            have d3 := hE.c3
            have d4 := hE.c4
            have d5 := hE.c5
            have d6 := hE.c6
            have dz := hE.lt
            obtain ⟨r0, f0⟩ := hE.res.2 0 (by simp)
            obtain ⟨r1, f1⟩ := hE.res.2 1 (by simp)
            obtain ⟨r2, f2⟩ := hE.res.2 2 (by simp)
            obtain ⟨r3, f3⟩ := hE.res.2 3 (by simp)
            obtain ⟨r4, f4⟩ := hE.res.2 4 (by simp)
            obtain ⟨r5, f5⟩ := hE.res.2 5 (by simp)
            obtain ⟨r6, f6⟩ := hE.res.2 6 (by simp)
            have rz := hE.res.1
            simp only [List.getElem_cons_succ, List.getElem_cons_zero] at r0 r1 r2 r3 r4 r5 r6
            clear hE hM hR hz
            go_wp2_with fail
            obtain ⟨z0, _⟩ := HEE.out.out.2 0 (by simp)
            obtain ⟨z1, _⟩ := HEE.out.out.2 1 (by simp)
            obtain ⟨z2, _⟩ := HEE.out.out.2 2 (by simp)
            obtain ⟨z3, _⟩ := HEE.out.out.2 3 (by simp)
            obtain ⟨z4, _⟩ := HEE.out.out.2 4 (by simp)
            obtain ⟨z5, _⟩ := HEE.out.out.2 5 (by simp)
            obtain ⟨z6, _⟩ := HEE.out.out.2 6 (by simp)
            simp only [List.getElem_cons_succ, List.getElem_cons_zero] at z0 z1 z2 z3 z4 z5 z6
            refine bodyPost_ret (v := .agg #[.slice E1 s.frames.length e1, .slice E2 s.heap.length e2, .slice E3 s.out.length e3, .int .i64 s.fuel, .bool s.done, .int .i64 s.value, .int .i64 s.trap]) (by simp [results, Tryz.results53, go_sem, z0, z1, z2, z3, z4, z5, z6]) rfl ?_
            exact HEE.out.told
end Go.Proofs.YtnknnncehcofnaaGreatDoor
