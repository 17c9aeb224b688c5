/- spec.l06Ok, Begin. -/
import Derived.Test.YtfaameimocjaiaaDoorBeginI
import Derived.Test.YtfaameimocjaiaaDoorSpecV
namespace Go.Proofs.YtfaameimocjaiaaDoor
open Go.RowKit

def OkTold (P : Prop) (w w' : World) (e : Ending) : Prop := ∃ b : Bool, e = .returned (.bool b) ∧ Below w.heap.size w w' ∧ (b = true ↔ P)

set_option maxRecDepth 100000 in
set_option maxHeartbeats 1600000 in
theorem specOk {B : Nat} (vp v : Value) (p : List FnM) (f fuel : Int) (l : List Int) (w : World) (hr : FnRow 0 w vp p) (hp : ∀ g ∈ p, g.ok) (hv : IRow B w v l) :
    Calls Tryd.prog 33 #[.agg #[vp], .int .i64 f, v, .int .i64 fuel] w fun e w' => OkTold (BegOk p f l fuel) w w' e := by
  have Hr : Hid (FnRow 0 w vp p) := hr
  have Hp : Hid (∀ g ∈ p, g.ok) := hp
  have hlen := hr.len
  have hll := hv.len
  obtain ⟨A, cap, rfl⟩ := hr.form
  obtain ⟨D, dap, rfl⟩ := hv.form
  clear hr hv hp
  have X0 : Hid (Box _ w.heap.size #[.slice A p.length cap]) := box_new w #[.slice A p.length cap] 29
  have X2 : Hid (Below w.heap.size w (w.alloc (.cells #[.slice A p.length cap] 29))) := (Below.refl _ _).alloc (Nat.le_refl _) _
  go_enter Tryd.func33, Tryd.ntmps33
  go_wp2_with fail
  refine (specIs _ p f _ (Hr.out.below X2.out) Hp.out).mono ?_
  rintro e w1 ⟨b, rfl, hb1, hiff⟩
  have Hb1 : Hid (Below w.heap.size w w1) := X2.out.trans (hb1.mono X2.out.size)
  have B0 : Hid (Box w1 w.heap.size #[.slice A p.length cap]) := X0.out.below hb1
  have q0 := B0.out.at0
  have z0 := B0.out.1
  clear hb1 X0 X2
  cases b with
  | false =>
    have HF : Hid (¬ BegOk p f l fuel) := fun h => by have := hiff.2 ⟨h.1, h.2.1⟩; simp at this
    clear hiff
    go_wp2_with fail
    go_ret
    exact ⟨false, rfl, Hb1.out, by simpa using HF.out⟩
  | true =>
    obtain ⟨hright, hin⟩ := hiff.1 rfl
    have hin2 := inL_iff.1 hin
    obtain ⟨k, rfl⟩ := Int.eq_ofNat_of_zero_le hin2.1
    have hk : k < p.length := by omega
    have hkl : (k : Int) < p.length := by omega
    obtain ⟨bp, op, xp, rfl, hltp, e0, -, -, -⟩ := (Hr.out.below Hb1.out).at k hk
    have hfn := fnAt_nat p k hk
    rw [← hfn] at e0
    obtain ⟨ar, har⟩ : ∃ ar, ar = (fnAt p (k : Int)).args := ⟨_, rfl⟩
    rw [← har] at e0
    have HI : Hid (BegOk p k l fuel ↔ (l.length : Int) = ar ∧ 0 ≤ fuel ∧ fuel ≤ 3000) := by
      show BegOk p k l fuel ↔ _
      unfold BegOk
      rw [← har]
      exact ⟨fun h => h.2.2, fun h => ⟨hright, hin, h⟩⟩
    clear hiff hright hin hin2 hfn har
    by_cases hla : (l.length : Int) = ar
    case neg =>
      have HF : Hid (¬ BegOk p k l fuel) := fun h => hla (HI.out.1 h).1
      have hne : ((l.length : Int) == ar) = false := by simpa using hla
      go_wp2_with fail
      go_ret
      exact ⟨false, rfl, Hb1.out, by simpa using HF.out⟩
    have hne : ((l.length : Int) == ar) = true := by simpa using hla
    have Hla : Hid ((l.length : Int) = ar) := hla
    clear hla
    by_cases h0 : 0 ≤ fuel
    case neg =>
      have HF : Hid (¬ BegOk p k l fuel) := fun h => h0 (HI.out.1 h).2.1
      have h0' : decide (0 ≤ fuel) = false := by simpa using h0
      go_wp2_with fail
      go_ret
      exact ⟨false, rfl, Hb1.out, by simpa using HF.out⟩
    by_cases h3 : fuel ≤ 3000
    · have HF : Hid (BegOk p k l fuel) := HI.out.2 ⟨Hla.out, h0, h3⟩
      go_wp2_with fail
      go_ret
      exact ⟨true, rfl, Hb1.out, by simpa using HF.out⟩
    · have HF : Hid (¬ BegOk p k l fuel) := fun h => h3 (HI.out.1 h).2.2
      have h3' : decide (fuel ≤ 3000) = false := by simpa using h3
      go_wp2_with fail
      go_ret
      exact ⟨false, rfl, Hb1.out, by simpa using HF.out⟩

def BegSTold (p : List FnM) (f : Int) (l : List Int) (fuel : Int) (w w' : World) (e : Ending) : Prop :=
  ∃ s A a D d E c, e = .returned (.agg #[.slice A s.frames.length a, .slice D s.heap.length d, .slice E s.out.length c, .int .i64 s.fuel, .bool s.done, .int .i64 s.value, .int .i64 s.trap]) ∧ BegIs p f l fuel s ∧ StRow 0 w' (.slice A s.frames.length a) (.slice D s.heap.length d) (.slice E s.out.length c) s ∧ Below w.heap.size w w'

theorem stRow_zero (w : World) : StRow 0 w (.slice none 0 0) (.slice none 0 0) (.slice none 0 0) zeroS := ⟨(ownFr_nil (fun _ _ => .no) 0 w (fun _ => .slice none 0 0) (fun _ => .slice none 0 0)).row, (ownAr_nil (fun _ _ => .no) 0 w (fun _ => .slice none 0 0)).row, irow_nil _ _⟩

set_option maxRecDepth 100000 in
set_option maxHeartbeats 1600000 in
theorem specBegin {B : Nat} (vp v : Value) (p : List FnM) (f fuel : Int) (l : List Int) (w : World) (hr : FnRow 0 w vp p) (hp : ∀ g ∈ p, g.ok) (hv : IRow B w v l) :
    Calls Tryd.prog 11 #[.agg #[vp], .int .i64 f, v, .int .i64 fuel] w fun e w' => BegSTold p f l fuel w w' e := by
  have Hr : Hid (FnRow 0 w vp p) := hr
  have Hv : Hid (IRow B w v l) := hv
  have Hp : Hid (∀ g ∈ p, g.ok) := hp
  have hlen := hr.len
  have hll := hv.len
  obtain ⟨A, cap, rfl⟩ := hr.form
  obtain ⟨D, dap, rfl⟩ := hv.form
  clear hr hv hp
  obtain ⟨t0, t1, t2⟩ := boxes_new w #[.slice A p.length cap] #[.slice none 0 0, .slice none 0 0, .slice none 0 0, .int .i64 0, .bool false, .int .i64 0, .int .i64 0] 29 37
  have y1 := vrow_new (w.alloc (.cells #[.slice A p.length cap] 29)) #[.slice none 0 0, .slice none 0 0, .slice none 0 0, .int .i64 0, .bool false, .int .i64 0, .int .i64 0] 37
  rw [show (w.alloc (.cells #[.slice A p.length cap] 29)).heap.size = w.heap.size + 1 by simp] at y1
  obtain ⟨wa, hwa⟩ : ∃ wa, wa = (w.alloc (.cells #[.slice A p.length cap] 29)).alloc (.cells #[.slice none 0 0, .slice none 0 0, .slice none 0 0, .int .i64 0, .bool false, .int .i64 0, .int .i64 0] 37) := ⟨_, rfl⟩
  rw [← hwa] at t0 t1 t2 y1
  have T0 : Hid (Box wa w.heap.size #[.slice A p.length cap]) := t0
  have T1 : Hid (VRow wa (w.heap.size + 1) [.slice none 0 0, .slice none 0 0, .slice none 0 0, .int .i64 0, .bool false, .int .i64 0, .int .i64 0]) := y1
  have T2 : Hid (Below w.heap.size w wa) := t2
  have HZ : Hid (∀ W, VRow W (w.heap.size + 1) [.slice none 0 0, .slice none 0 0, .slice none 0 0, .int .i64 0, .bool false, .int .i64 0, .int .i64 0] → W.cell? ⟨w.heap.size + 1, 0, none⟩ = some (.slice none 0 0) ∧ W.cell? ⟨w.heap.size + 1, 1, none⟩ = some (.slice none 0 0) ∧ W.cell? ⟨w.heap.size + 1, 2, none⟩ = some (.slice none 0 0) ∧ W.cell? ⟨w.heap.size + 1, 3, none⟩ = some (.int .i64 0) ∧ W.cell? ⟨w.heap.size + 1, 4, none⟩ = some (.bool false) ∧ W.cell? ⟨w.heap.size + 1, 5, none⟩ = some (.int .i64 0) ∧ W.cell? ⟨w.heap.size + 1, 6, none⟩ = some (.int .i64 0) ∧
      W.frozen? ⟨w.heap.size + 1, 0, none⟩ = false ∧ W.frozen? ⟨w.heap.size + 1, 1, none⟩ = false ∧ W.frozen? ⟨w.heap.size + 1, 2, none⟩ = false ∧ W.frozen? ⟨w.heap.size + 1, 3, none⟩ = false ∧ W.frozen? ⟨w.heap.size + 1, 4, none⟩ = false ∧ W.frozen? ⟨w.heap.size + 1, 5, none⟩ = false ∧ W.frozen? ⟨w.heap.size + 1, 6, none⟩ = false ∧ w.heap.size + 1 < W.heap.size) := fun W h =>
    ⟨(h.2 0 (by simp)).1, (h.2 1 (by simp)).1, (h.2 2 (by simp)).1, (h.2 3 (by simp)).1, (h.2 4 (by simp)).1, (h.2 5 (by simp)).1, (h.2 6 (by simp)).1, (h.2 0 (by simp)).2, (h.2 1 (by simp)).2, (h.2 2 (by simp)).2, (h.2 3 (by simp)).2, (h.2 4 (by simp)).2, (h.2 5 (by simp)).2, (h.2 6 (by simp)).2, h.1⟩
  have hO := specOk (.slice A p.length cap) (.slice D l.length dap) p f fuel l wa (Hr.out.below t2) Hp.out (Hv.out.below t2)
  have HO : Hid (Calls Tryd.prog 33 #[.agg #[.slice A p.length cap], .int .i64 f, .slice D l.length dap, .int .i64 fuel] wa fun e w' => OkTold (BegOk p f l fuel) wa w' e) := hO
  clear t0 t1 t2 y1 hO
  by_cases h400 : l.length ≤ 400
  case neg =>
    have HB : Hid (BegIs p f l fuel zeroS) := .inr ⟨fun h => by
      have h2 := inL_iff.1 h.2.1
      obtain ⟨k, rfl⟩ := Int.eq_ofNat_of_zero_le h2.1
      obtain ⟨lo, _, _, _, h3, h4⟩ := begOk_form h.1 (k := k) (by omega) h.2.2.1
      omega, rfl⟩
    have h400' : (400 : Int) < l.length := by omega
    go_enter Tryd.func11, Tryd.ntmps11
    go_wp2_with fail
    exact bodyPost_ret (v := .agg #[.slice none 0 0, .slice none 0 0, .slice none 0 0, .int .i64 0, .bool false, .int .i64 0, .int .i64 0]) (by simp [results, Tryd.results11, go_sem]) rfl
      ⟨zeroS, none, 0, none, 0, none, 0, rfl, HB.out, stRow_zero _, by have := T2.out; rwa [hwa] at this⟩
  have h400' : decide ((400 : Int) < l.length) = false := by simp; omega
  go_enter Tryd.func11, Tryd.ntmps11
  go_wp2_with fail
  rw [← hwa]
  clear hwa
  refine Calls.mono (R := fun e w' => OkTold (BegOk p f l fuel) wa w' e) HO.out ?_
  rintro e w1 ⟨b, rfl, hb1, hiff⟩
  have Hb1 : Hid (Below w.heap.size w w1) := T2.out.trans (hb1.mono T2.out.size)
  have B0 : Hid (Box w1 w.heap.size #[.slice A p.length cap]) := T0.out.below hb1
  have B1 : Hid (VRow w1 (w.heap.size + 1) [.slice none 0 0, .slice none 0 0, .slice none 0 0, .int .i64 0, .bool false, .int .i64 0, .int .i64 0]) := T1.out.below hb1
  obtain ⟨c0, c1, c2, c3, c4, c5, c6, f0, f1, f2, f3, f4, f5, f6, z1⟩ := HZ.out w1 B1.out
  have q0 := B0.out.at0
  have z0 := B0.out.1
  clear hb1 T0 T1 T2 HO
  cases b with
  | false =>
    have HB : Hid (BegIs p f l fuel zeroS) := .inr ⟨fun h => by have := hiff.2 h; simp at this, rfl⟩
    clear hiff
    go_wp2_with fail
    refine bodyPost_ret (v := .agg #[.slice none 0 0, .slice none 0 0, .slice none 0 0, .int .i64 0, .bool false, .int .i64 0, .int .i64 0]) (by simp [results, Tryd.results11, go_sem, c0, c1, c2, c3, c4, c5, c6]) rfl
      ⟨zeroS, none, 0, none, 0, none, 0, rfl, HB.out, stRow_zero _, ?_⟩
    iterate 7 (refine Below.setCell ?_ (by simp) _)
    exact Hb1.out
  | true =>
    have hbo := hiff.1 rfl
    have hin2 := inL_iff.1 hbo.2.1
    obtain ⟨k, rfl⟩ := Int.eq_ofNat_of_zero_le hin2.1
    have hk : k < p.length := by omega
    obtain ⟨lo, hlo1, hlo2, hlo3, hlo4, hlo5⟩ := begOk_form hbo.1 hk hbo.2.2.1
    have HB : Hid (BegIs p k l fuel (begS k lo l fuel)) := .inl ⟨hbo, by rw [hlo3]⟩
    have hN := specNew (.slice A p.length cap) (.slice D l.length dap) p k lo l w1 (Hr.out.below Hb1.out) hk hlo2 (Hv.out.below Hb1.out) hlo4 (by omega)
    have HN : Hid (Calls Tryd.prog 34 #[.agg #[.slice A p.length cap], .int .i64 k, .slice D l.length dap] w1 fun e w' => NewSTold k lo l w1 w' e) := hN
    clear hiff hbo hin2 hlo1 hlo2 hlo3 hN
    go_wp2_with fail
    refine Calls.mono (R := fun e w' => NewSTold k lo l w1 w' e) HN.out ?_
    rintro e w2 ⟨v2, rfl, hV, hb2⟩
    have B2 := B1.out.below hb2
    obtain ⟨c0, c1, c2, c3, c4, c5, c6, f0, f1, f2, f3, f4, f5, f6, z1⟩ := HZ.out w2 B2
    have hV' := hV.lower (show w.heap.size + 1 + 1 ≤ w1.heap.size from B1.out.1)
    have HV : Hid (IRow (w.heap.size + 1 + 1) w2 v2 (newLocals lo l)) := hV'
    have Hb2 : Hid (Below w.heap.size w w2) := Hb1.out.trans (hb2.mono Hb1.out.size)
    obtain ⟨A2, a2, rfl⟩ := hV.form
    clear hV hV' hb2 B2 HN
    go_wp2_with fail
    obtain ⟨W7, hW7⟩ : ∃ W7, W7 = ((((((w2.setCell ⟨w.heap.size + 1, 0, none⟩ (.slice (some ⟨w2.heap.size, 0, none⟩) 1 1)).setCell ⟨w.heap.size + 1, 1, none⟩ (.slice none 0 0)).setCell ⟨w.heap.size + 1, 2, none⟩ (.slice none 0 0)).setCell ⟨w.heap.size + 1, 3, none⟩ (.int .i64 fuel)).setCell ⟨w.heap.size + 1, 4, none⟩ (.bool false)).setCell ⟨w.heap.size + 1, 5, none⟩ (.int .i64 0)).setCell ⟨w.heap.size + 1, 6, none⟩ (.int .i64 0) := ⟨_, rfl⟩
    have hs7 : W7.heap.size = w2.heap.size := by rw [hW7]; simp
    have hV7 : IRow (w.heap.size + 1 + 1) W7 (.slice A2 (newLocals lo l).length a2) (newLocals lo l) := by
      rw [hW7]
      iterate 7 (refine IRow.set ?_ (by simp) _)
      exact HV.out
    have hb7 : Below w.heap.size w W7 := by
      rw [hW7]
      iterate 7 (refine Below.setCell ?_ (by simp) _)
      exact Hb2.out
    have hal : Below W7.heap.size W7 (W7.alloc (.cells #[.int .i64 k, .int .i64 0, .slice A2 (newLocals lo l).length a2, .slice none 0 0] 71)) := (Below.refl _ _).alloc (Nat.le_refl _) _
    have hF := vrow_new W7 #[.int .i64 k, .int .i64 0, .slice A2 (newLocals lo l).length a2, .slice none 0 0] 71
    rw [hs7] at hF
    have hbW := hb7.trans (hal.mono hb7.size)
    have hfr : FrRow 0 (W7.alloc (.cells #[.int .i64 k, .int .i64 0, .slice A2 (newLocals lo l).length a2, .slice none 0 0] 71)) (.slice (some ⟨w2.heap.size, 0, none⟩) 1 1) [⟨k, 0, newLocals lo l, []⟩] := by
      refine ⟨_, 1, rfl, by simp, fun i hi => ?_⟩
      have hi0 : i = 0 := by simpa using hi
      subst hi0
      exact ⟨w2.heap.size, 0, _, _, rfl, Nat.zero_le _, hF.1, (hF.2 0 (by simp)).1, (hF.2 1 (by simp)).1, (hF.2 2 (by simp)).1, (hF.2 3 (by simp)).1, (hV7.lower (Nat.zero_le _)).below hal, irow_nil _ _⟩
    rw [hW7] at hfr hbW
    exact bodyPost_ret (v := .agg #[.slice (some ⟨w2.heap.size, 0, none⟩) 1 1, .slice none 0 0, .slice none 0 0, .int .i64 fuel, .bool false, .int .i64 0, .int .i64 0]) (by simp [results, Tryd.results11, go_sem, c0, c1, c2, c3, c4, c5, c6, z1]) rfl
      ⟨begS k lo l fuel, some ⟨w2.heap.size, 0, none⟩, 1, none, 0, none, 0, rfl, HB.out, ⟨hfr, (stRow_zero _).2.1, irow_nil _ _⟩, hbW⟩
end Go.Proofs.YtfaameimocjaiaaDoor
