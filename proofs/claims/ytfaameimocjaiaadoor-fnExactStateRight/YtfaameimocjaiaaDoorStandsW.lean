/- spec.l06Stands. -/
import Derived.Test.YtfaameimocjaiaaDoorFrameW
import Derived.Test.YtfaameimocjaiaaDoorSpecV
namespace Go.Proofs.YtfaameimocjaiaaDoor
open Go.RowKit

/-- standsS, of a function's code and locals -/
def stS (c : List (Int × Int)) (lo : Int) (hs : List Int) (pc : Int) (ll sl : Nat) (above : Int) : Bool :=
  decide ((ll : Int) = lo) && decide (0 ≤ pc) && decide (pc < c.length) &&
    (if above < 0 then decide (0 ≤ hs.getD pc.toNat 0) && decide ((sl : Int) = hs.getD pc.toNat 0)
     else decide (0 < pc) && decide (0 ≤ hs.getD (pc.toNat - 1) 0) && decide (c.getD (pc.toNat - 1) (0, 0) = (32, above)) && decide ((sl : Int) = hs.getD pc.toNat 0 - 1))

/-- what it says -/
def StandsOk (p : List FnM) (f pc : Int) (ll sl : Nat) (above : Int) : Prop := inL f p.length = true ∧ ∃ hs, HsOf p f.toNat hs ∧ stS (fnAt p f).code (fnAt p f).locals hs pc ll sl above = true

/-- a truth told -/
def TruthTold (P : Prop) (w w' : World) (e : Ending) : Prop := ∃ b : Bool, e = .returned (.bool b) ∧ Below w.heap.size w w' ∧ (b = true ↔ P)

theorem frOkS_iff {p : List FnM} {fs : List FrM} {i : Nat} {f : FrM} (h : fs[i]? = some f) : FrOkS p fs i ↔ StandsOk p f.func f.pc f.locals.length f.stack.length ((nextF fs i).getD (-1)) := by
  constructor
  · rintro ⟨g, g1, g2, hs, g3, g4⟩
    rw [h] at g1
    cases g1
    exact ⟨g2, hs, g3, g4⟩
  · rintro ⟨g2, hs, g3, g4⟩
    exact ⟨f, h, g2, hs, g3, g4⟩

set_option maxRecDepth 100000 in
set_option maxHeartbeats 3200000 in
theorem specStands (vp : Value) (p : List FnM) (f pc : Int) (ll sl : Nat) (above : Int) (w : World) (hr : FnRow 0 w vp p) (hp : ∀ g ∈ p, g.ok) (hright : RightP p) (okf : I64 f) (okp : I64 pc) (_hll : ll ≤ 9223372036854775807) (_hsl : sl ≤ 9223372036854775807) (oka : I64 above) :
    Calls Tryd.prog 51 #[.agg #[vp], .int .i64 f, .int .i64 pc, .int .i64 ll, .int .i64 sl, .int .i64 above] w fun e w' => TruthTold (StandsOk p f pc ll sl above) w w' e := by
  have Hr : Hid (FnRow 0 w vp p) := hr
  have Hp : Hid (∀ g ∈ p, g.ok) := hp
  have hlen := hr.len
  obtain ⟨A, cap, rfl⟩ := hr.form
  unfold I64 at okf okp oka
  clear hr hp
  have Hal : Hid (∀ o : Obj, Below w.heap.size w (w.alloc o)) := fun o => (Below.refl _ _).alloc (Nat.le_refl _) _
  by_cases hf0 : 0 ≤ f
  case neg =>
    have HF : Hid (¬ StandsOk p f pc ll sl above) := fun h => by have := inL_iff.1 h.1; omega
    have hf0' : f < 0 := by omega
    go_enter Tryd.func51, Tryd.ntmps51
    go_wp2_with fail
    go_ret
    exact ⟨false, rfl, Hal.out _, by simpa using HF.out⟩
  have hf0' : decide (f < 0) = false := by simp; omega
  by_cases hf1 : f < p.length
  case neg =>
    have HF : Hid (¬ StandsOk p f pc ll sl above) := fun h => by have := inL_iff.1 h.1; omega
    have hf1' : (p.length : Int) ≤ f := by omega
    go_enter Tryd.func51, Tryd.ntmps51
    go_wp2_with fail
    go_ret
    exact ⟨false, rfl, Hal.out _, by simpa using HF.out⟩
  obtain ⟨k, rfl⟩ := Int.eq_ofNat_of_zero_le hf0
  have hk : k < p.length := by omega
  have hf1' : decide ((p.length : Int) ≤ (k : Int)) = false := by simp; omega
  obtain ⟨hs, hrun, hl1, hl2, _, hrange, _⟩ := hright.heights k hk
  have hfn := fnAt_nat p k hk
  obtain ⟨hfo, hall, _⟩ := ((hright.all).2.2 k hk).well rfl
  have hform : 1 ≤ (fnAt p k).code.length ∧ (fnAt p k).code.length ≤ 60 := by simp [formOk] at hfo; omega
  obtain ⟨c, hc⟩ : ∃ c, c = p[k].code := ⟨_, rfl⟩
  have hcf : (fnAt p k).code = c := by rw [hfn, hc]
  obtain ⟨lo, hlo⟩ : ∃ lo, lo = p[k].locals := ⟨_, rfl⟩
  have hlf : (fnAt p k).locals = lo := by rw [hfn, hlo]
  have HI : Hid (StandsOk p k pc ll sl above ↔ stS c lo hs pc ll sl above = true) := by
    have HsOk : HsOf p k hs := hrun
    constructor
    · rintro ⟨_, hs', g3, g4⟩
      rw [Int.toNat_natCast] at g3
      have := g3.unique HsOk
      simp only [Sum.inl.injEq] at this
      subst this
      rw [hcf, hlf] at g4
      exact g4
    · intro h
      exact ⟨inL_iff.2 ⟨by omega, by omega⟩, hs, by rw [Int.toNat_natCast]; exact HsOk, by rw [hcf, hlf]; exact h⟩
  rw [hcf] at hrun hl1 hall hform
  have Hrun : Hid (HRun p c (startH c.length) (.inl hs)) := hrun
  obtain ⟨wa, hwa⟩ : ∃ wa, wa = w.alloc (.cells #[.slice A p.length cap] 29) := ⟨_, rfl⟩
  have t0 : Box wa w.heap.size #[.slice A p.length cap] := by rw [hwa]; exact box_new w _ 29
  have t2 : Below w.heap.size w wa := by rw [hwa]; exact Hal.out _
  have T0 : Hid (Box wa w.heap.size #[.slice A p.length cap]) := t0
  have T2 : Hid (Below w.heap.size w wa) := t2
  obtain ⟨bp, op, xp, rfl, hltp, e0, e1, e2, hxp⟩ := Hr.out.at k hk
  obtain ⟨Ac, capc, rfl⟩ := hxp.form
  have HIns : Hid (InsRow 0 w (.slice Ac p[k].code.length capc) p[k].code) := hxp
  rw [← hlo] at e1
  rw [← hc] at e2 HIns
  have hfi := specHeights (.slice (some ⟨bp, op, none⟩) p.length cap) p k wa (Hr.out.below t2) Hp.out hk (by rw [← hc]; exact hform.1) (by rw [← hc]; exact hform.2) (by rw [← hc]; exact goesTo_range (p := p) (f := k) hcf.symm hall)
  rw [← hc] at hfi
  have Hfi : Hid (Calls Tryd.prog 69 #[.agg #[.slice (some ⟨bp, op, none⟩) p.length cap], .int .i64 k] wa fun e w' => HTold p c k wa w' e) := hfi
  have Hcell : Hid (w.cell? ⟨bp, op + k * 3 + 2, none⟩ = some (.slice Ac c.length capc) ∧ bp < w.heap.size) := ⟨e2, hltp⟩
  have hkl : (k : Int) < p.length := by omega
  clear hxp hfn hfo hall hcf hlf hlo hc hrun hfi t0 t2 hright hf0 hf1
  by_cases hlo' : (ll : Int) = lo
  case neg =>
    have HF : Hid (¬ StandsOk p k pc ll sl above) := by show ¬ StandsOk p k pc ll sl above; rw [HI.out]; simp [stS, hlo']
    have hne : ((ll : Int) != lo) = true := by simpa using hlo'
    go_enter Tryd.func51, Tryd.ntmps51
    go_wp2_with fail
    go_ret
    exact ⟨false, rfl, Hal.out _, by simpa using HF.out⟩
  have hne : ((ll : Int) != lo) = false := by simpa using hlo'
  have Hlo : Hid ((ll : Int) = lo) := hlo'
  clear hlo'
  by_cases hp0 : 0 ≤ pc
  case neg =>
    have HF : Hid (¬ StandsOk p k pc ll sl above) := by show ¬ StandsOk p k pc ll sl above; rw [HI.out]; simp [stS, hp0]
    have hp0' : pc < 0 := by omega
    go_enter Tryd.func51, Tryd.ntmps51
    go_wp2_with fail
    go_ret
    exact ⟨false, rfl, Hal.out _, by simpa using HF.out⟩
  have hp0' : decide (pc < 0) = false := by simp; omega
  by_cases hp1 : pc < c.length
  case neg =>
    have HF : Hid (¬ StandsOk p k pc ll sl above) := by show ¬ StandsOk p k pc ll sl above; rw [HI.out]; simp [stS, hp1]
    have hp1' : (c.length : Int) ≤ pc := by omega
    go_enter Tryd.func51, Tryd.ntmps51
    go_wp2_with fail
    go_ret
    exact ⟨false, rfl, Hal.out _, by simpa using HF.out⟩
  obtain ⟨j, rfl⟩ := Int.eq_ofNat_of_zero_le hp0
  have hj : j < c.length := by omega
  have hjl : (j : Int) < c.length := by omega
  have hp1' : decide ((c.length : Int) ≤ (j : Int)) = false := by simp; omega
  have HI2 : Hid (stS c lo hs (j : Int) ll sl above = (if above < 0 then decide (0 ≤ hs.getD j 0) && decide ((sl : Int) = hs.getD j 0) else decide (0 < (j : Int)) && decide (0 ≤ hs.getD (j - 1) 0) && decide (c.getD (j - 1) (0, 0) = (32, above)) && decide ((sl : Int) = hs.getD j 0 - 1))) := by
    show stS _ _ _ _ _ _ _ = _
    unfold stS
    rw [Int.toNat_natCast, decide_eq_true Hlo.out, decide_eq_true (show 0 ≤ (j : Int) by omega), decide_eq_true (show (j : Int) < c.length by omega)]
    simp
  clear hp0 hp1
  go_enter Tryd.func51, Tryd.ntmps51
  go_wp2_with fail
  rw [← hwa]
  clear hwa
  refine Calls.mono (R := fun e w' => HTold p c k wa w' e) Hfi.out ?_
  rintro e w2 ⟨bh, caph, F, A2, C, rfl, hbl, hb2, hcase⟩
  rcases hcase with ⟨rfl, rfl, rfl, hs', hrun', hV, hl'⟩ | ⟨_, a, _, hrun'⟩
  case inr => exact absurd (hrun'.unique Hrun.out) (by simp)
  have he : hs' = hs := by have := hrun'.unique Hrun.out; simpa using this
  subst he
  have Hb2 : Hid (Below w.heap.size w w2) := T2.out.trans (hb2.mono T2.out.size)
  have HT2 : Hid (Box w2 w.heap.size #[.slice (some ⟨bp, op, none⟩) p.length cap]) := T0.out.below hb2
  have HIns2 : Hid (InsRow 0 w2 (.slice Ac c.length capc) c) := HIns.out.below Hb2.out
  have q0 := HT2.out.at0
  have z0 := HT2.out.1
  have q2 : w2.cell? ⟨bp, op + k * 3 + 2, none⟩ = some (.slice Ac c.length capc) := by rw [Hb2.out.cell (by exact Hcell.out.2)]; exact Hcell.out.1
  have zp : bp < w2.heap.size := Nat.lt_of_lt_of_le Hcell.out.2 Hb2.out.size
  have zh := hV.1
  obtain ⟨v0, -⟩ := hV.int j (by omega)
  have HV : Hid (VRow w2 bh (ints hs')) := hV
  obtain ⟨hj0, hhj⟩ : ∃ x, x = hs'.getD j 0 := ⟨_, rfl⟩
  rw [← hhj] at v0 HI2
  have hrj := hrange j (by omega)
  rw [← hhj] at hrj
  have hr8 : -1 ≤ hj0 ∧ hj0 ≤ 8 := by omega
  have heq := eqI6
  clear hV hb2 hrun' Hfi hhj hrj e0 e1 e2 hltp
  by_cases hab : above < 0
  · rw [if_pos hab] at HI2
    by_cases hg : 0 ≤ hj0
    · go_wp2_with fail
      go_ret
      exact ⟨_, rfl, Hb2.out.alloc Hb2.out.size _, by rw [HI.out, HI2.out]; simp [hg]⟩
    · have hg' : decide (0 ≤ hj0) = false := by simp; omega
      go_wp2_with fail
      go_ret
      exact ⟨false, rfl, Hb2.out.alloc Hb2.out.size _, by rw [HI.out, HI2.out, hg']; simp⟩
  · rw [if_neg hab] at HI2
    have hab' : decide (above < 0) = false := by simp; omega
    by_cases hj0' : 0 < j
    case neg =>
      have : j = 0 := by omega
      subst this
      go_wp2_with fail
      go_ret
      exact ⟨false, rfl, Hb2.out.alloc Hb2.out.size _, by rw [HI.out, HI2.out]; simp⟩
    obtain ⟨q, rfl⟩ : ∃ q, j = q + 1 := ⟨j - 1, by omega⟩
    obtain ⟨v1, -⟩ := HV.out.int q (by omega)
    obtain ⟨bc, oc, rfl, hltc, c0, c1⟩ := HIns2.out.at q (by omega)
    obtain ⟨h1, hh1⟩ : ∃ x, x = hs'.getD q 0 := ⟨_, rfl⟩
    rw [Nat.add_sub_cancel] at HI2
    rw [← hh1] at v1 HI2
    have hcq : c.getD q (0, 0) = c[q] := by simp [List.getD, show q < c.length by omega]
    rw [hcq] at HI2
    obtain ⟨o1, ho1⟩ : ∃ x, x = c[q].1 := ⟨_, rfl⟩
    obtain ⟨o2, ho2⟩ : ∃ x, x = c[q].2 := ⟨_, rfl⟩
    have HI3 : Hid (stS c lo hs' ((q + 1 : Nat) : Int) ll sl above = (decide (0 ≤ h1) && (o1 == 32 && o2 == above) && decide ((sl : Int) = hj0 - 1))) := by
      show stS _ _ _ _ _ _ _ = _
      rw [HI2.out, decide_eq_true (show (0 : Int) < ((q + 1 : Nat) : Int) by omega), ho1, ho2, Bool.true_and]
      congr 2
      rw [Bool.eq_iff_iff]
      simp [Prod.ext_iff]
    rw [← ho1] at c0
    rw [← ho2] at c1
    clear hh1 hcq ho1 ho2 HI2
    have hq1 : (q : Int) < c.length := by omega
    have hq2 : (q : Int) + 1 < c.length := by omega
    by_cases hg : 0 ≤ h1
    case neg =>
      have hg' : decide (0 ≤ h1) = false := by simp; omega
      go_wp2_with fail
      go_ret
      exact ⟨false, rfl, Hb2.out.alloc Hb2.out.size _, by rw [HI.out, HI3.out, hg']; simp⟩
    rw [decide_eq_true hg, Bool.true_and] at HI3
    obtain ⟨bb, hbb⟩ : ∃ bb, bb = (o1 == 32 && o2 == above) := ⟨_, rfl⟩
    rw [← hbb] at HI3
    cases bb with
    | false =>
      have hbb' := hbb.symm
      clear hbb
      go_wp2_with fail
      all_goals
        go_ret
        exact ⟨_, rfl, Hb2.out.alloc Hb2.out.size _, by rw [HI.out, HI3.out]; simp_all⟩
    | true =>
      have hbb' := hbb.symm
      clear hbb
      go_wp2_with fail
      all_goals
        go_ret
        exact ⟨_, rfl, Hb2.out.alloc Hb2.out.size _, by rw [HI.out, HI3.out]; simp_all⟩
end Go.Proofs.YtfaameimocjaiaaDoor
