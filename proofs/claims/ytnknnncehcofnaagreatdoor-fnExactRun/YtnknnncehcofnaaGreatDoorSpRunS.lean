/- spec.Run. -/
import Derived.Test.YtnknnncehcofnaaGreatDoorCopyU
import Derived.Test.YtnknnncehcofnaaGreatDoorJ35StandsW
import Derived.Test.YtnknnncehcofnaaGreatDoorStepI
import Derived.Test.YtnknnncehcofnaaGreatDoorSpStepS
namespace Go.Proofs.YtnknnncehcofnaaGreatDoor
open Go.RowKit

/-- what a run tells of a state: its end, where it is right; else the state itself -/
def RunIs (p : List FnM) (s s' : StM) : Prop := (StRightI p s ∧ s' = runM p s.fuel.toNat s) ∨ (¬ StRightI p s ∧ s' = s)

theorem RunIs.unique {p : List FnM} {s a b : StM} (h : RunIs p s a) (k : RunIs p s b) : a = b := by
  rcases h with ⟨h1, h2⟩ | ⟨h1, h2⟩
  · rcases k with ⟨_, k2⟩ | ⟨k1, _⟩
    · rw [h2, k2]
    · exact absurd h1 k1
  · rcases k with ⟨k1, _⟩ | ⟨_, k2⟩
    · exact absurd k1 h1
    · rw [h2, k2]

def RunTold (p : List FnM) (s : StM) (w w' : World) (e : Ending) : Prop := ∃ x y z own X Y Z s', e = .returned (stV x y z s') ∧ OwnSt own w.heap.size w' x y z s' X Y Z ∧ RunIs p s s' ∧ Small s' ∧ Below w.heap.size w w'

/-- the end of Step: what is read, what is told -/
structure EndR (U R : Nat) (w : World) (m : Nat) (p : List FnM) (s s' : StM) (wf : World) (v1 v2 v3 : Value) : Prop where
  c0 : wf.cell? ⟨m, 0, none⟩ = some v1
  c1 : wf.cell? ⟨m, 1, none⟩ = some v2
  c2 : wf.cell? ⟨m, 2, none⟩ = some v3
  c3 : wf.cell? ⟨m, 3, none⟩ = some (.int .i64 s'.fuel)
  c4 : wf.cell? ⟨m, 4, none⟩ = some (.bool s'.done)
  c5 : wf.cell? ⟨m, 5, none⟩ = some (.int .i64 s'.value)
  c6 : wf.cell? ⟨m, 6, none⟩ = some (.int .i64 s'.trap)
  lt : m < wf.heap.size
  res : VRow wf R [.slice none 0 0, .slice none 0 0, .slice none 0 0, .int .i64 0, .bool false, .int .i64 0, .int .i64 0]
  out : VRow (((((((wf.setCell ⟨R, 0, none⟩ v1).setCell ⟨R, 1, none⟩ v2).setCell ⟨R, 2, none⟩ v3).setCell ⟨R, 3, none⟩ (.int .i64 s'.fuel)).setCell ⟨R, 4, none⟩ (.bool s'.done)).setCell ⟨R, 5, none⟩ (.int .i64 s'.value)).setCell ⟨R, 6, none⟩ (.int .i64 s'.trap)) R [v1, v2, v3, .int .i64 s'.fuel, .bool s'.done, .int .i64 s'.value, .int .i64 s'.trap]
  told : RunTold p s w (((((((wf.setCell ⟨R, 0, none⟩ v1).setCell ⟨R, 1, none⟩ v2).setCell ⟨R, 2, none⟩ v3).setCell ⟨R, 3, none⟩ (.int .i64 s'.fuel)).setCell ⟨R, 4, none⟩ (.bool s'.done)).setCell ⟨R, 5, none⟩ (.int .i64 s'.value)).setCell ⟨R, 6, none⟩ (.int .i64 s'.trap)) (.returned (.agg #[v1, v2, v3, .int .i64 s'.fuel, .bool s'.done, .int .i64 s'.value, .int .i64 s'.trap]))

theorem end_r {U R m : Nat} {pr : Pr} {own : Nat → Nat → Tag} {w wf : World} {V : Tag → Value} {C : Tag → List Value} {p : List FnM} {s s' : StM} (M : Mac U m 0 pr own wf V C s') (hsm : Small s') (hst : RunIs p s s')
    (hR : VRow wf R [.slice none 0 0, .slice none 0 0, .slice none 0 0, .int .i64 0, .bool false, .int .i64 0, .int .i64 0]) (hRU : R < U) (hwR : w.heap.size ≤ R) (hb : Below w.heap.size w wf) :
    ∃ E1 e1 E2 e2 E3 e3, EndR U R w m p s s' wf (.slice E1 s'.frames.length e1) (.slice E2 s'.heap.length e2) (.slice E3 s'.out.length e3) := by
  have hO := M.l.state M.k hsm
  obtain ⟨E1, e1, h1⟩ := hO.stRow.1.form
  obtain ⟨E2, e2, h2⟩ := hO.stRow.2.1.form
  obtain ⟨E3, e3, h3⟩ := hO.stRow.2.2.form
  have k0 := (M.cs 0 (by omega)).1
  have k1 := (M.cs 1 (by omega)).1
  have k2 := (M.cs 2 (by omega)).1
  have k3 := (M.cs 3 (by omega)).1
  have k4 := (M.cs 4 (by omega)).1
  have k5 := (M.cs 5 (by omega)).1
  have k6 := (M.cs 6 (by omega)).1
  simp only [mcells, Nat.zero_add] at k0 k1 k2 k3 k4 k5 k6
  rw [h1, h2, h3] at k0 k1 k2 k3 k4 k5 k6
  rw [h1, h2, h3] at hO
  refine ⟨E1, e1, E2, e2, E3, e3, ⟨by simpa using k0, by simpa using k1, by simpa using k2, by simpa using k3, by simpa using k4, by simpa using k5, by simpa using k6, M.lt, hR, ?_, ?_⟩⟩
  · have := ((((((hR.set_at 0 (.slice E1 s'.frames.length e1) (by simp)).set_at 1 (.slice E2 s'.heap.length e2) (by simp)).set_at 2 (.slice E3 s'.out.length e3) (by simp)).set_at 3 (.int .i64 s'.fuel) (by simp)).set_at 4 (.bool s'.done) (by simp)).set_at 5 (.int .i64 s'.value) (by simp)).set_at 6 (.int .i64 s'.trap) (by simp)
    simpa only [List.set_cons_succ, List.set_cons_zero] using this
  · exact ⟨_, _, _, own, _, _, _, s', rfl, (((((((hO.setLow (by exact hRU) _).setLow (by exact hRU) _).setLow (by exact hRU) _).setLow (by exact hRU) _).setLow (by exact hRU) _).setLow (by exact hRU) _).setLow (by exact hRU) _).lower (by omega), hst, hsm, ((((((hb.setCell hwR _).setCell hwR _).setCell hwR _).setCell hwR _).setCell hwR _).setCell hwR _).setCell hwR _⟩

set_option maxRecDepth 100000 in
set_option maxHeartbeats 3200000 in
theorem specRunS (vp x y z : Value) (p : List FnM) (s : StM) (w : World) (ht : Tab w) (hr : FnRow 0 w vp p) (hp : ∀ g ∈ p, g.ok) (hs : StRow 0 w x y z s) (hok : s.ok) (hn : s.bulk ≤ 1048576) :
    Calls Tryz.prog 24 #[.agg #[vp], stV x y z s] w fun e w' => RunTold p s w w' e := by
  have Hr : Hid (FnRow 0 w vp p) := hr
  have Hp : Hid (∀ g ∈ p, g.ok) := hp
  have Hs : Hid (StRow 0 w x y z s) := hs
  have Ht : Hid (Tab w) := ht
  have Hok : Hid (s.ok) := hok
  have Hn : Hid (s.bulk ≤ 1048576) := hn
  obtain ⟨Ap, ap, rfl⟩ := hr.form
  obtain ⟨A1, a1, rfl⟩ := hs.1.form
  obtain ⟨A2, a2, rfl⟩ := hs.2.1.form
  obtain ⟨A3, a3, rfl⟩ := hs.2.2.form
  clear ht hr hp hs hok hn
  obtain ⟨o1, ho1⟩ : ∃ o, o = Obj.cells #[.slice Ap p.length ap] 25 := ⟨_, rfl⟩
  obtain ⟨o2, ho2⟩ : ∃ o, o = Obj.cells #[.slice A1 s.frames.length a1, .slice A2 s.heap.length a2, .slice A3 s.out.length a3, .int .i64 s.fuel, .bool s.done, .int .i64 s.value, .int .i64 s.trap] 45 := ⟨_, rfl⟩
  obtain ⟨o3, ho3⟩ : ∃ o, o = Obj.cells #[.slice none 0 0, .slice none 0 0, .slice none 0 0, .int .i64 0, .bool false, .int .i64 0, .int .i64 0] 45 := ⟨_, rfl⟩
  have hW2 : Below w.heap.size w (((w.alloc o1).alloc o2).alloc o3) := (((Below.refl _ _).alloc (Nat.le_refl _) _).alloc (by simp) _).alloc (by simp; omega) _
  have hz : (((w.alloc o1).alloc o2).alloc o3).heap.size = w.heap.size + 3 := by simp
  have hR1 : VRow (((w.alloc o1).alloc o2).alloc o3) w.heap.size [.slice Ap p.length ap] := by
    subst ho1
    exact ((vrow_new w #[.slice Ap p.length ap] 25).below ((Below.refl _ _).alloc (Nat.le_refl _) _)).below ((Below.refl _ _).alloc (Nat.le_refl _) _)
  have hR2 : VRow (((w.alloc o1).alloc o2).alloc o3) (w.heap.size + 1) [.slice A1 s.frames.length a1, .slice A2 s.heap.length a2, .slice A3 s.out.length a3, .int .i64 s.fuel, .bool s.done, .int .i64 s.value, .int .i64 s.trap] := by
    subst ho2
    have := (vrow_new (w.alloc o1) #[.slice A1 s.frames.length a1, .slice A2 s.heap.length a2, .slice A3 s.out.length a3, .int .i64 s.fuel, .bool s.done, .int .i64 s.value, .int .i64 s.trap] 45).below ((Below.refl _ _).alloc (Nat.le_refl _) o3)
    simpa using this
  have hR3 : VRow (((w.alloc o1).alloc o2).alloc o3) (w.heap.size + 1 + 1) [.slice none 0 0, .slice none 0 0, .slice none 0 0, .int .i64 0, .bool false, .int .i64 0, .int .i64 0] := by
    subst ho3
    have := vrow_new ((w.alloc o1).alloc o2) #[.slice none 0 0, .slice none 0 0, .slice none 0 0, .int .i64 0, .bool false, .int .i64 0, .int .i64 0] 45
    simpa using this
  obtain ⟨W, hW⟩ : ∃ W, W = ((w.alloc o1).alloc o2).alloc o3 := ⟨_, rfl⟩
  rw [← hW] at hW2 hz hR1 hR2 hR3
  have HW2 : Hid (Below w.heap.size w W) := hW2
  have HR1 : Hid (VRow W w.heap.size _) := hR1
  have HR2 : Hid (VRow W (w.heap.size + 1) _) := hR2
  have HR3 : Hid (VRow W (w.heap.size + 1 + 1) _) := hR3
  have Hz : Hid (W.heap.size = w.heap.size + 3) := hz
  subst ho1
  subst ho2
  subst ho3
  clear hW2 hz hR1 hR2 hR3
  unfold stV
  have HC : Hid (Calls Tryz.prog 53 #[.agg #[.slice A1 s.frames.length a1, .slice A2 s.heap.length a2, .slice A3 s.out.length a3, .int .i64 s.fuel, .bool s.done, .int .i64 s.value, .int .i64 s.trap]] W fun e w' => CopySS s W w' e) := specCopySt _ _ _ s W ⟨Hs.out.1.below HW2.out, Hs.out.2.1.below HW2.out, Hs.out.2.2.below HW2.out⟩ Hn.out
  have HS : Hid (∀ W', Below W.heap.size W W' → W'.cell? ⟨w.heap.size, 0, none⟩ = some (.slice Ap p.length ap) ∧ W'.cell? ⟨w.heap.size + 1, 0, none⟩ = some (.slice A1 s.frames.length a1) ∧ W'.cell? ⟨w.heap.size + 1, 1, none⟩ = some (.slice A2 s.heap.length a2) ∧ W'.cell? ⟨w.heap.size + 1, 2, none⟩ = some (.slice A3 s.out.length a3) ∧ W'.cell? ⟨w.heap.size + 1, 3, none⟩ = some (.int .i64 s.fuel) ∧ W'.cell? ⟨w.heap.size + 1, 4, none⟩ = some (.bool s.done) ∧ W'.cell? ⟨w.heap.size + 1, 5, none⟩ = some (.int .i64 s.value) ∧ W'.cell? ⟨w.heap.size + 1, 6, none⟩ = some (.int .i64 s.trap)) := fun W' hb => by
    have h1 := HR1.out.below hb
    have h2 := HR2.out.below hb
    exact ⟨(h1.2 0 (by simp)).1, (h2.2 0 (by simp)).1, (h2.2 1 (by simp)).1, (h2.2 2 (by simp)).1, (h2.2 3 (by simp)).1, (h2.2 4 (by simp)).1, (h2.2 5 (by simp)).1, (h2.2 6 (by simp)).1⟩
  go_enter Tryz.func24, Tryz.ntmps24
  go_wp2_with fail
  rw [← hW]
  clear hW
  refine Calls.mono (R := fun e w' => CopySS s W w' e) HC.out ?_
  rintro e wA ⟨x', y', z', own, X, Y, Z, rfl, hO, hbA⟩
  obtain ⟨B1, b1, rfl⟩ := hO.stRow.1.form
  obtain ⟨B2, b2, rfl⟩ := hO.stRow.2.1.form
  obtain ⟨B3, b3, rfl⟩ := hO.stRow.2.2.form
  unfold stV
  have hV9 := vrow_new wA #[.slice B1 s.frames.length b1, .slice B2 s.heap.length b2, .slice B3 s.out.length b3, .int .i64 s.fuel, .bool s.done, .int .i64 s.value, .int .i64 s.trap] 45
  have hbel : Below wA.heap.size wA (wA.alloc (.cells #[.slice B1 s.frames.length b1, .slice B2 s.heap.length b2, .slice B3 s.out.length b3, .int .i64 s.fuel, .bool s.done, .int .i64 s.value, .int .i64 s.trap] 45)) := (Below.refl _ _).alloc (Nat.le_refl _) _
  obtain ⟨wc, hwc⟩ : ∃ x, x = (wA.alloc (.cells #[.slice B1 s.frames.length b1, .slice B2 s.heap.length b2, .slice B3 s.out.length b3, .int .i64 s.fuel, .bool s.done, .int .i64 s.value, .int .i64 s.trap] 45)) := ⟨_, rfl⟩
  rw [← hwc] at hV9 hbel
  obtain ⟨m, hm⟩ : ∃ m, m = wA.heap.size := ⟨_, rfl⟩
  have hz := Hz.out
  have hzA := hbA.size
  obtain ⟨own', V, C, M⟩ := laid_z (U := w.heap.size + 3) (m := wA.heap.size) (wd := wc) hO (by omega) (Nat.le_refl _) (by omega) hV9.1 hbel (fun q hq => by
    have h1 := hV9.2 q (by simpa using hq)
    refine ⟨?_, h1.2⟩
    rw [h1.1]
    exact (List.getElem?_eq_getElem (by simpa using hq)).symm)
  have HM : Hid (Mac (w.heap.size + 3) m 0 noPr own' wc V C s) := by rw [hm]; exact M
  have HbW : Hid (Below W.heap.size W wc) := hbA.trans (hbel.mono hbA.size)
  have HbC : Hid (Below w.heap.size w wc) := HW2.out.trans (HbW.out.mono HW2.out.size)
  have HE : Hid (∀ wf s', MacZ (w.heap.size + 3) m wf s' → Below (w.heap.size + 3) wc wf → RunIs p s s' → Small s' → ∃ E1 e1 E2 e2 E3 e3, EndR (w.heap.size + 3) (w.heap.size + 1 + 1) w m p s s' wf (.slice E1 s'.frames.length e1) (.slice E2 s'.heap.length e2) (.slice E3 s'.out.length e3)) := fun wf s' hI hb hst hsm => by
    obtain ⟨own2, V2, C2, M2⟩ := hI
    have hR : VRow wf (w.heap.size + 1 + 1) _ := (HR3.out.below HbW.out).upTo hb (by omega)
    exact end_r M2 hsm hst hR (by omega) (by omega) (HbC.out.trans (hb.mono (by omega)))
  have hSR := specStRight (.slice Ap p.length ap) (.slice A1 s.frames.length a1) (.slice A2 s.heap.length a2) (.slice A3 s.out.length a3) p s wc (Hr.out.below HbC.out) Hp.out ⟨Hs.out.1.below HbC.out, Hs.out.2.1.below HbC.out, Hs.out.2.2.below HbC.out⟩ Hok.out
  unfold stV at hSR
  have HSR : Hid (Calls Tryz.prog 54 _ wc fun e w' => TruthTold (StRightS p s) wc w' e) := hSR
  obtain ⟨y0, y1, y2, y3, y4, y5, y6, y7⟩ := HS.out wA hbA
  have hmw : w.heap.size + 1 ≠ wA.heap.size := by omega
  have hmw0 : w.heap.size ≠ wA.heap.size := by omega
  have hlt0 : w.heap.size < wA.heap.size := by omega
  have hlt1 : w.heap.size + 1 < wA.heap.size := by omega
  clear hSR M hV9 hbel hO HC
  have Hz2 : Hid (W.heap.size ≤ wA.heap.size) := hzA
  clear hz hzA hbA
  go_wp2_with fail
  rw [← hwc, ← hm]
  have Hmm : Hid (m = wA.heap.size) := hm
  have Hwc : Hid (wc = _) := hwc
  clear hwc hm y0 y1 y2 y3 y4 y5 y6 y7 hmw hmw0 hlt0 hlt1
  refine Calls.mono (R := fun e w' => TruthTold (StRightS p s) wc w' e) HSR.out ?_
  rintro e w1 ⟨b, rfl, hb1, hiff⟩
  have Hb1 : Hid (Below wc.heap.size wc w1) := hb1
  have HM1 : Hid (Mac (w.heap.size + 3) m 0 noPr own' w1 V C s) := HM.out.below hb1
  have HU : Hid (w.heap.size + 3 ≤ wc.heap.size) := Nat.le_of_lt (Nat.lt_of_le_of_lt HM.out.base HM.out.lt)
  clear hb1 HSR
  cases b with
  | false =>
    have hst : RunIs p s s := .inr ⟨fun h => by simpa using hiff.2 (stRight_iff.1 h), rfl⟩
    clear hiff
    obtain ⟨E1, e1, E2, e2, E3, e3, hE⟩ := HE.out w1 s ⟨_, _, _, HM1.out⟩ (Hb1.out.mono HU.out) hst (small_of_bulk Hn.out)
    have HEE : Hid (EndR _ _ _ _ _ _ _ _ _ _ _) := hE
    have d0 := hE.c0
    have d1 := hE.c1
    have d2 := hE.c2
    have d3 := hE.c3
    have d4 := hE.c4
    have d5 := hE.c5
    have d6 := hE.c6
    have dz := hE.lt
    obtain ⟨r0, f0⟩ := hE.res.2 0 (by simp)
    obtain ⟨r1, f1⟩ := hE.res.2 1 (by simp)
    obtain ⟨r2, f2⟩ := hE.res.2 2 (by simp)
    obtain ⟨r3, f3⟩ := hE.res.2 3 (by simp)
    obtain ⟨r4, f4⟩ := hE.res.2 4 (by simp)
    obtain ⟨r5, f5⟩ := hE.res.2 5 (by simp)
    obtain ⟨r6, f6⟩ := hE.res.2 6 (by simp)
    have rz := hE.res.1
    simp only [List.getElem_cons_succ, List.getElem_cons_zero] at r0 r1 r2 r3 r4 r5 r6
    clear hE
    go_wp2_with fail
    obtain ⟨z0, _⟩ := HEE.out.out.2 0 (by simp)
    obtain ⟨z1, _⟩ := HEE.out.out.2 1 (by simp)
    obtain ⟨z2, _⟩ := HEE.out.out.2 2 (by simp)
    obtain ⟨z3, _⟩ := HEE.out.out.2 3 (by simp)
    obtain ⟨z4, _⟩ := HEE.out.out.2 4 (by simp)
    obtain ⟨z5, _⟩ := HEE.out.out.2 5 (by simp)
    obtain ⟨z6, _⟩ := HEE.out.out.2 6 (by simp)
    simp only [List.getElem_cons_succ, List.getElem_cons_zero] at z0 z1 z2 z3 z4 z5 z6
    refine bodyPost_ret (v := .agg #[.slice E1 s.frames.length e1, .slice E2 s.heap.length e2, .slice E3 s.out.length e3, .int .i64 s.fuel, .bool s.done, .int .i64 s.value, .int .i64 s.trap]) (by simp [results, Tryz.results24, go_sem, z0, z1, z2, z3, z4, z5, z6]) rfl ?_
    exact HEE.out.told
  | true =>
    have Hright : Hid (StRightI p s) := stRight_iff.2 (hiff.1 rfl)
    have HM1' : Hid (MacZ (w.heap.size + 3) m w1 s) := ⟨_, _, _, HM1.out⟩
    have Hf : Hid (s.fuel.toNat ≤ 3000) := by have := restOk_iff.1 Hright.out.2.1; show s.fuel.toNat ≤ 3000; omega
    clear hiff
    go_wp2_with fail
    go_loopg [] 3000 (fun g wr => ∃ t : StM, MacZ (w.heap.size + 3) m wr t ∧ Below (w.heap.size + 3) wc wr ∧ StRightI p t ∧ runM p t.fuel.toNat t = runM p s.fuel.toNat s ∧ t.fuel.toNat ≤ g)
    case atStart => exact ⟨s, HM1'.out, Hb1.out.mono HU.out, Hright.out, rfl, Hf.out⟩
    case round =>
      obtain ⟨t, hMt, hbt, hrt, hrun, hfg⟩ := hrel
      have HMt : Hid (MacZ (w.heap.size + 3) m wr t) := hMt
      have Hbt : Hid (Below (w.heap.size + 3) wc wr) := hbt
      have Hrt : Hid (StRightI p t) := hrt
      have Hrun : Hid (runM p t.fuel.toNat t = runM p s.fuel.toNat s) := hrun
      have Hfg : Hid (t.fuel.toNat ≤ gk) := hfg
      obtain ⟨own2, V2, C2, M2⟩ := hMt
      obtain ⟨E1, n1, e1, h1⟩ := (M2.l.row .fr trivial).form
      obtain ⟨E2, n2, e2, h2⟩ := (M2.l.row .hp trivial).form
      obtain ⟨E3, n3, e3, h3⟩ := (M2.l.row .out trivial).form
      obtain ⟨c0, c1, c2, c3, c4, c5, c6⟩ := M2.zcell
      have cl := M2.lt
      rw [h1] at c0
      rw [h2] at c1
      rw [h3] at c2
      have hgo := specGoes (.slice E1 n1 e1) (.slice E2 n2 e2) (.slice E3 n3 e3) t wr
      unfold stV at hgo
      have Hgo : Hid (Calls Tryz.prog 55 _ wr fun e w' => e = .returned (.bool (goesM t)) ∧ Below wr.heap.size wr w') := hgo
      have HUr : Hid (w.heap.size + 3 ≤ wr.heap.size) := Nat.le_of_lt (Nat.lt_of_le_of_lt M2.base M2.lt)
      clear hgo M2 h1 h2 h3 hbt hrt hrun hfg
      go_wp2_with fail
      refine Calls.mono (R := fun e w' => e = .returned (.bool (goesM t)) ∧ Below wr.heap.size wr w') Hgo.out ?_
      rintro e w2 ⟨rfl, hb2⟩
      have HM2 : Hid (MacZ (w.heap.size + 3) m w2 t) := HMt.out.below hb2
      have Hb2 : Hid (Below (w.heap.size + 3) wc w2) := Hbt.out.trans (hb2.mono HUr.out)
      clear hb2 c0 c1 c2 c3 c4 c5 c6 cl Hgo
      cases hg : goesM t with
      | false =>
        have hst : RunIs p s t := .inl ⟨Hright.out, by rw [← Hrun.out, runM_stays hg]⟩
        have hsm : Small t := Hrt.out.small
        clear hg
        obtain ⟨E1, e1, E2, e2, E3, e3, hE⟩ := HE.out w2 t HM2.out Hb2.out hst hsm
        have HEE : Hid (EndR _ _ _ _ _ _ _ _ _ _ _) := hE
        have d0 := hE.c0
        have d1 := hE.c1
        have d2 := hE.c2
        have d3 := hE.c3
        have d4 := hE.c4
        have d5 := hE.c5
        have d6 := hE.c6
        have dz := hE.lt
        obtain ⟨r0, f0⟩ := hE.res.2 0 (by simp)
        obtain ⟨r1, f1⟩ := hE.res.2 1 (by simp)
        obtain ⟨r2, f2⟩ := hE.res.2 2 (by simp)
        obtain ⟨r3, f3⟩ := hE.res.2 3 (by simp)
        obtain ⟨r4, f4⟩ := hE.res.2 4 (by simp)
        obtain ⟨r5, f5⟩ := hE.res.2 5 (by simp)
        obtain ⟨r6, f6⟩ := hE.res.2 6 (by simp)
        have rz := hE.res.1
        simp only [List.getElem_cons_succ, List.getElem_cons_zero] at r0 r1 r2 r3 r4 r5 r6
        clear hE
        go_wp2_with fail
        obtain ⟨z0, _⟩ := HEE.out.out.2 0 (by simp)
        obtain ⟨z1, _⟩ := HEE.out.out.2 1 (by simp)
        obtain ⟨z2, _⟩ := HEE.out.out.2 2 (by simp)
        obtain ⟨z3, _⟩ := HEE.out.out.2 3 (by simp)
        obtain ⟨z4, _⟩ := HEE.out.out.2 4 (by simp)
        obtain ⟨z5, _⟩ := HEE.out.out.2 5 (by simp)
        obtain ⟨z6, _⟩ := HEE.out.out.2 6 (by simp)
        simp only [List.getElem_cons_succ, List.getElem_cons_zero] at z0 z1 z2 z3 z4 z5 z6
        refine bodyPost_ret (v := .agg #[.slice E1 t.frames.length e1, .slice E2 t.heap.length e2, .slice E3 t.out.length e3, .int .i64 t.fuel, .bool t.done, .int .i64 t.value, .int .i64 t.trap]) (by simp [results, Tryz.results24, go_sem, z0, z1, z2, z3, z4, z5, z6]) rfl ?_
        exact HEE.out.told
      | true =>
        have Hg : Hid (goesM t = true) := hg
        obtain ⟨low, f, i, j, hs, hS⟩ := stand Hrt.out Hg.out
        have hfu : 0 < t.fuel := hS.fuel.1
        have hstep := specStepL hS (w.heap.size + 3) m (.slice Ap p.length ap) w2 HM2.out (fun w' hb => by
          have hb' : Below w.heap.size w w' := HbC.out.trans ((Hb2.out.trans hb).mono (by omega))
          exact ⟨Hr.out.below hb', Ht.out.below hb'⟩)
        have Hstep : Hid (Calls Tryz.prog 56 #[.agg #[.slice Ap p.length ap], .pointer (some ⟨m, 0, none⟩)] w2 fun e w' => MacZT (w.heap.size + 3) m (stepM p t) (.tuple #[]) w2 w' e) := hstep
        have Hfu : Hid (0 < t.fuel) := hfu
        have y0 : w2.cell? ⟨w.heap.size, 0, none⟩ = some (.slice Ap p.length ap) := by
          rw [Hb2.out.cell (by show w.heap.size < w.heap.size + 3; omega)]
          exact (HS.out wc HbW.out).1
        clear hstep hS hg hfu
        go_wp2_with fail
        refine Calls.mono (R := fun e w' => MacZT (w.heap.size + 3) m (stepM p t) (.tuple #[]) w2 w' e) Hstep.out ?_
        rintro e w3 ⟨rfl, hI3, hb3⟩
        have HR : Hid (∃ t' : StM, MacZ (w.heap.size + 3) m w3 t' ∧ Below (w.heap.size + 3) wc w3 ∧ StRightI p t' ∧ runM p t'.fuel.toNat t' = runM p s.fuel.toNat s ∧ t'.fuel.toNat + 1 ≤ gk) := by
          have h1 := Hfg.out
          have h2 := Hfu.out
          have hf := stepM_fuel p t
          refine ⟨stepM p t, hI3, Hb2.out.trans hb3, stepM_right Hrt.out Hg.out, ?_, by omega⟩
          rw [← Hrun.out]
          obtain ⟨k, hk⟩ : ∃ k, t.fuel.toNat = k + 1 := ⟨t.fuel.toNat - 1, by omega⟩
          rw [hk, runM_goes Hg.out]
          have : (stepM p t).fuel.toNat = k := by omega
          rw [this]
        clear hI3 hb3 Hstep y0 Hfg Hfu
        go_wp2_with fail
        go_roundg (gk - 1)
        case rel =>
          obtain ⟨t', a1, a2, a3, a4, a5⟩ := HR.out
          exact ⟨t', a1, a2, a3, a4, by omega⟩
        case measure =>
          obtain ⟨t', a1, a2, a3, a4, a5⟩ := HR.out
          omega
end Go.Proofs.YtnknnncehcofnaaGreatDoor
