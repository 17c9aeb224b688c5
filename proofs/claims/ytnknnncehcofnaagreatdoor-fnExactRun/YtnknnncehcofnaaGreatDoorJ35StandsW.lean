/- spec.l06Stands. spec.StateRight. -/
import Derived.Test.YtnknnncehcofnaaGreatDoorJ28ArgsS
import Derived.Test.YtnknnncehcofnaaGreatDoorJ34SpecF
import Derived.Test.YtnknnncehcofnaaGreatDoorJ29ToldW
namespace Go.Proofs.YtnknnncehcofnaaGreatDoor
open Go.RowKit

/-- standsS, of a function's code and locals -/
def stS (c : List (Int × Int)) (lo : Int) (hs : List Int) (pc : Int) (ll sl : Nat) (above : Int) : Bool :=
  decide ((ll : Int) = lo) && decide (0 ≤ pc) && decide (pc < c.length) &&
    (if above < 0 then decide (0 ≤ hs.getD pc.toNat 0) && decide ((sl : Int) = hs.getD pc.toNat 0)
     else decide (0 < pc) && decide (0 ≤ hs.getD (pc.toNat - 1) 0) && decide (c.getD (pc.toNat - 1) (0, 0) = (32, above)) && decide ((sl : Int) = hs.getD pc.toNat 0 - 1))

/-- what it says -/
def StandsOk (p : List FnM) (f pc : Int) (ll sl : Nat) (above : Int) : Prop := inL f p.length = true ∧ ∃ hs, HsOf p f.toNat hs ∧ stS (fnAt p f).code (fnAt p f).locals hs pc ll sl above = true

/-- a truth told -/
def TruthTold (P : Prop) (w w' : World) (e : Ending) : Prop := ∃ b : Bool, e = .returned (.bool b) ∧ Below w.heap.size w w' ∧ (b = true ↔ P)

theorem frOkS_iff {p : List FnM} {fs : List FrM} {i : Nat} {f : FrM} (h : fs[i]? = some f) : FrOkS p fs i ↔ StandsOk p f.func f.pc f.locals.length f.stack.length ((nextF fs i).getD (-1)) := by
  constructor
  · rintro ⟨g, g1, g2, hs, g3, g4⟩
    rw [h] at g1
    cases g1
    exact ⟨g2, hs, g3, g4⟩
  · rintro ⟨g2, hs, g3, g4⟩
    exact ⟨f, h, g2, hs, g3, g4⟩

set_option maxRecDepth 100000 in
set_option maxHeartbeats 3200000 in
theorem specStands (vp : Value) (p : List FnM) (f pc : Int) (ll sl : Nat) (above : Int) (w : World) (hr : FnRow 0 w vp p) (hp : ∀ g ∈ p, g.ok) (hright : RightP p) (okf : I64 f) (okp : I64 pc) (_hll : ll ≤ 9223372036854775807) (_hsl : sl ≤ 9223372036854775807) (oka : I64 above) :
    Calls Tryz.prog 108 #[.agg #[vp], .int .i64 f, .int .i64 pc, .int .i64 ll, .int .i64 sl, .int .i64 above] w fun e w' => TruthTold (StandsOk p f pc ll sl above) w w' e := by
  have Hr : Hid (FnRow 0 w vp p) := hr
  have Hp : Hid (∀ g ∈ p, g.ok) := hp
  have hlen := hr.len
  obtain ⟨A, cap, rfl⟩ := hr.form
  unfold I64 at okf okp oka
  clear hr hp
  have Hal : Hid (∀ o : Obj, Below w.heap.size w (w.alloc o)) := fun o => (Below.refl _ _).alloc (Nat.le_refl _) _
  by_cases hf0 : 0 ≤ f
  case neg =>
    have HF : Hid (¬ StandsOk p f pc ll sl above) := fun h => by have := inL_iff.1 h.1; omega
    have hf0' : f < 0 := by omega
    go_enter Tryz.func108, Tryz.ntmps108
    go_wp2_with fail
    go_ret
    exact ⟨false, rfl, Hal.out _, by simpa using HF.out⟩
  have hf0' : decide (f < 0) = false := by simp; omega
  by_cases hf1 : f < p.length
  case neg =>
    have HF : Hid (¬ StandsOk p f pc ll sl above) := fun h => by have := inL_iff.1 h.1; omega
    have hf1' : (p.length : Int) ≤ f := by omega
    go_enter Tryz.func108, Tryz.ntmps108
    go_wp2_with fail
    go_ret
    exact ⟨false, rfl, Hal.out _, by simpa using HF.out⟩
  obtain ⟨k, rfl⟩ := Int.eq_ofNat_of_zero_le hf0
  have hk : k < p.length := by omega
  have hf1' : decide ((p.length : Int) ≤ (k : Int)) = false := by simp; omega
  obtain ⟨hs, hrun, hl1, hl2, _, hrange, _⟩ := hright.heights k hk
  have hfn := fnAt_nat p k hk
  obtain ⟨hfo, hall, _⟩ := ((hright.all).2.2 k hk).well rfl
  have hform : 1 ≤ (fnAt p k).code.length ∧ (fnAt p k).code.length ≤ 60 := by simp [formOk] at hfo; omega
  obtain ⟨c, hc⟩ : ∃ c, c = p[k].code := ⟨_, rfl⟩
  have hcf : (fnAt p k).code = c := by rw [hfn, hc]
  obtain ⟨lo, hlo⟩ : ∃ lo, lo = p[k].locals := ⟨_, rfl⟩
  have hlf : (fnAt p k).locals = lo := by rw [hfn, hlo]
  have HI : Hid (StandsOk p k pc ll sl above ↔ stS c lo hs pc ll sl above = true) := by
    have HsOk : HsOf p k hs := hrun
    constructor
    · rintro ⟨_, hs', g3, g4⟩
      rw [Int.toNat_natCast] at g3
      have := g3.unique HsOk
      simp only [Sum.inl.injEq] at this
      subst this
      rw [hcf, hlf] at g4
      exact g4
    · intro h
      exact ⟨inL_iff.2 ⟨by omega, by omega⟩, hs, by rw [Int.toNat_natCast]; exact HsOk, by rw [hcf, hlf]; exact h⟩
  rw [hcf] at hrun hl1 hall hform
  have Hrun : Hid (HRun p c (startH c.length) (.inl hs)) := hrun
  obtain ⟨wa, hwa⟩ : ∃ wa, wa = w.alloc (.cells #[.slice A p.length cap] 25) := ⟨_, rfl⟩
  have t0 : Box wa w.heap.size #[.slice A p.length cap] := by rw [hwa]; exact box_new w _ 25
  have t2 : Below w.heap.size w wa := by rw [hwa]; exact Hal.out _
  have T0 : Hid (Box wa w.heap.size #[.slice A p.length cap]) := t0
  have T2 : Hid (Below w.heap.size w wa) := t2
  obtain ⟨bp, op, xp, rfl, hltp, e0, e1, e2, hxp⟩ := Hr.out.at k hk
  obtain ⟨Ac, capc, rfl⟩ := hxp.form
  have HIns : Hid (InsRow 0 w (.slice Ac p[k].code.length capc) p[k].code) := hxp
  rw [← hlo] at e1
  rw [← hc] at e2 HIns
  have hfi := specHeights (.slice (some ⟨bp, op, none⟩) p.length cap) p k wa (Hr.out.below t2) Hp.out hk (by rw [← hc]; exact hform.1) (by rw [← hc]; exact hform.2) (by rw [← hc]; exact goesTo_range (p := p) (f := k) hcf.symm hall)
  rw [← hc] at hfi
  have Hfi : Hid (Calls Tryz.prog 96 #[.agg #[.slice (some ⟨bp, op, none⟩) p.length cap], .int .i64 k] wa fun e w' => HTold p c k wa w' e) := hfi
  have Hcell : Hid (w.cell? ⟨bp, op + k * 3 + 2, none⟩ = some (.slice Ac c.length capc) ∧ bp < w.heap.size) := ⟨e2, hltp⟩
  have hkl : (k : Int) < p.length := by omega
  clear hxp hfn hfo hall hcf hlf hlo hc hrun hfi t0 t2 hright hf0 hf1
  by_cases hlo' : (ll : Int) = lo
  case neg =>
    have HF : Hid (¬ StandsOk p k pc ll sl above) := by show ¬ StandsOk p k pc ll sl above; rw [HI.out]; simp [stS, hlo']
    have hne : ((ll : Int) != lo) = true := by simpa using hlo'
    go_enter Tryz.func108, Tryz.ntmps108
    go_wp2_with fail
    go_ret
    exact ⟨false, rfl, Hal.out _, by simpa using HF.out⟩
  have hne : ((ll : Int) != lo) = false := by simpa using hlo'
  have Hlo : Hid ((ll : Int) = lo) := hlo'
  clear hlo'
  by_cases hp0 : 0 ≤ pc
  case neg =>
    have HF : Hid (¬ StandsOk p k pc ll sl above) := by show ¬ StandsOk p k pc ll sl above; rw [HI.out]; simp [stS, hp0]
    have hp0' : pc < 0 := by omega
    go_enter Tryz.func108, Tryz.ntmps108
    go_wp2_with fail
    go_ret
    exact ⟨false, rfl, Hal.out _, by simpa using HF.out⟩
  have hp0' : decide (pc < 0) = false := by simp; omega
  by_cases hp1 : pc < c.length
  case neg =>
    have HF : Hid (¬ StandsOk p k pc ll sl above) := by show ¬ StandsOk p k pc ll sl above; rw [HI.out]; simp [stS, hp1]
    have hp1' : (c.length : Int) ≤ pc := by omega
    go_enter Tryz.func108, Tryz.ntmps108
    go_wp2_with fail
    go_ret
    exact ⟨false, rfl, Hal.out _, by simpa using HF.out⟩
  obtain ⟨j, rfl⟩ := Int.eq_ofNat_of_zero_le hp0
  have hj : j < c.length := by omega
  have hjl : (j : Int) < c.length := by omega
  have hp1' : decide ((c.length : Int) ≤ (j : Int)) = false := by simp; omega
  have HI2 : Hid (stS c lo hs (j : Int) ll sl above = (if above < 0 then decide (0 ≤ hs.getD j 0) && decide ((sl : Int) = hs.getD j 0) else decide (0 < (j : Int)) && decide (0 ≤ hs.getD (j - 1) 0) && decide (c.getD (j - 1) (0, 0) = (32, above)) && decide ((sl : Int) = hs.getD j 0 - 1))) := by
    show stS _ _ _ _ _ _ _ = _
    unfold stS
    rw [Int.toNat_natCast, decide_eq_true Hlo.out, decide_eq_true (show 0 ≤ (j : Int) by omega), decide_eq_true (show (j : Int) < c.length by omega)]
    simp
  clear hp0 hp1
  go_enter Tryz.func108, Tryz.ntmps108
  go_wp2_with fail
  rw [← hwa]
  clear hwa
  refine Calls.mono (R := fun e w' => HTold p c k wa w' e) Hfi.out ?_
  rintro e w2 ⟨bh, caph, F, A2, C, rfl, hbl, hb2, hcase⟩
  rcases hcase with ⟨rfl, rfl, rfl, hs', hrun', hV, hl'⟩ | ⟨_, a, _, hrun'⟩
  case inr => exact absurd (hrun'.unique Hrun.out) (by simp)
  have he : hs' = hs := by have := hrun'.unique Hrun.out; simpa using this
  subst he
  have Hb2 : Hid (Below w.heap.size w w2) := T2.out.trans (hb2.mono T2.out.size)
  have HT2 : Hid (Box w2 w.heap.size #[.slice (some ⟨bp, op, none⟩) p.length cap]) := T0.out.below hb2
  have HIns2 : Hid (InsRow 0 w2 (.slice Ac c.length capc) c) := HIns.out.below Hb2.out
  have q0 := HT2.out.at0
  have z0 := HT2.out.1
  have q2 : w2.cell? ⟨bp, op + k * 3 + 2, none⟩ = some (.slice Ac c.length capc) := by rw [Hb2.out.cell (by exact Hcell.out.2)]; exact Hcell.out.1
  have zp : bp < w2.heap.size := Nat.lt_of_lt_of_le Hcell.out.2 Hb2.out.size
  have zh := hV.1
  obtain ⟨v0, -⟩ := hV.int j (by omega)
  have HV : Hid (VRow w2 bh (ints hs')) := hV
  obtain ⟨hj0, hhj⟩ : ∃ x, x = hs'.getD j 0 := ⟨_, rfl⟩
  rw [← hhj] at v0 HI2
  have hrj := hrange j (by omega)
  rw [← hhj] at hrj
  have hr8 : -1 ≤ hj0 ∧ hj0 ≤ 8 := by omega
  have heq := eqI6
  clear hV hb2 hrun' Hfi hhj hrj e0 e1 e2 hltp
  by_cases hab : above < 0
  · rw [if_pos hab] at HI2
    by_cases hg : 0 ≤ hj0
    · go_wp2_with fail
      go_ret
      exact ⟨_, rfl, Hb2.out.alloc Hb2.out.size _, by rw [HI.out, HI2.out]; simp [hg]⟩
    · have hg' : decide (0 ≤ hj0) = false := by simp; omega
      go_wp2_with fail
      go_ret
      exact ⟨false, rfl, Hb2.out.alloc Hb2.out.size _, by rw [HI.out, HI2.out, hg']; simp⟩
  · rw [if_neg hab] at HI2
    have hab' : decide (above < 0) = false := by simp; omega
    by_cases hj0' : 0 < j
    case neg =>
      have : j = 0 := by omega
      subst this
      go_wp2_with fail
      go_ret
      exact ⟨false, rfl, Hb2.out.alloc Hb2.out.size _, by rw [HI.out, HI2.out]; simp⟩
    obtain ⟨q, rfl⟩ : ∃ q, j = q + 1 := ⟨j - 1, by omega⟩
    obtain ⟨v1, -⟩ := HV.out.int q (by omega)
    obtain ⟨bc, oc, rfl, hltc, c0, c1⟩ := HIns2.out.at q (by omega)
    obtain ⟨h1, hh1⟩ : ∃ x, x = hs'.getD q 0 := ⟨_, rfl⟩
    rw [Nat.add_sub_cancel] at HI2
    rw [← hh1] at v1 HI2
    have hcq : c.getD q (0, 0) = c[q] := by simp [List.getD, show q < c.length by omega]
    rw [hcq] at HI2
    obtain ⟨o1, ho1⟩ : ∃ x, x = c[q].1 := ⟨_, rfl⟩
    obtain ⟨o2, ho2⟩ : ∃ x, x = c[q].2 := ⟨_, rfl⟩
    have HI3 : Hid (stS c lo hs' ((q + 1 : Nat) : Int) ll sl above = (decide (0 ≤ h1) && (o1 == 32 && o2 == above) && decide ((sl : Int) = hj0 - 1))) := by
      show stS _ _ _ _ _ _ _ = _
      rw [HI2.out, decide_eq_true (show (0 : Int) < ((q + 1 : Nat) : Int) by omega), ho1, ho2, Bool.true_and]
      congr 2
      rw [Bool.eq_iff_iff]
      simp [Prod.ext_iff]
    rw [← ho1] at c0
    rw [← ho2] at c1
    clear hh1 hcq ho1 ho2 HI2
    have hq1 : (q : Int) < c.length := by omega
    have hq2 : (q : Int) + 1 < c.length := by omega
    by_cases hg : 0 ≤ h1
    case neg =>
      have hg' : decide (0 ≤ h1) = false := by simp; omega
      go_wp2_with fail
      go_ret
      exact ⟨false, rfl, Hb2.out.alloc Hb2.out.size _, by rw [HI.out, HI3.out, hg']; simp⟩
    rw [decide_eq_true hg, Bool.true_and] at HI3
    obtain ⟨bb, hbb⟩ : ∃ bb, bb = (o1 == 32 && o2 == above) := ⟨_, rfl⟩
    rw [← hbb] at HI3
    cases bb with
    | false =>
      have hbb' := hbb.symm
      clear hbb
      go_wp2_with fail
      all_goals
        go_ret
        exact ⟨_, rfl, Hb2.out.alloc Hb2.out.size _, by rw [HI.out, HI3.out]; simp_all⟩
    | true =>
      have hbb' := hbb.symm
      clear hbb
      go_wp2_with fail
      all_goals
        go_ret
        exact ⟨_, rfl, Hb2.out.alloc Hb2.out.size _, by rw [HI.out, HI3.out]; simp_all⟩
end Go.Proofs.YtnknnncehcofnaaGreatDoor

namespace Go.Proofs.YtnknnncehcofnaaGreatDoor
open Go.RowKit

set_option maxRecDepth 100000 in
set_option maxHeartbeats 3200000 in
theorem specStRight (vp x y z : Value) (p : List FnM) (s : StM) (w : World) (hr : FnRow 0 w vp p) (hp : ∀ g ∈ p, g.ok) (hs : StRow 0 w x y z s) (hok : s.ok) :
    Calls Tryz.prog 54 #[.agg #[vp], stV x y z s] w fun e w' => TruthTold (StRightS p s) w w' e := by
  have Hr : Hid (FnRow 0 w vp p) := hr
  have Hs : Hid (StRow 0 w x y z s) := hs
  have Hp : Hid (∀ g ∈ p, g.ok) := hp
  have Hok : Hid s.ok := hok
  have hlf := hs.1.len
  obtain ⟨A, cap, rfl⟩ := hr.form
  obtain ⟨A1, a1, rfl⟩ := hs.1.form
  obtain ⟨A2, a2, rfl⟩ := hs.2.1.form
  obtain ⟨A3, a3, rfl⟩ := hs.2.2.form
  clear hr hs hp hok
  unfold stV
  obtain ⟨t0, t1, t2⟩ := boxes_new w #[.slice A p.length cap] #[.slice A1 s.frames.length a1, .slice A2 s.heap.length a2, .slice A3 s.out.length a3, .int .i64 s.fuel, .bool s.done, .int .i64 s.value, .int .i64 s.trap] 25 45
  have T0 : Hid (Box _ w.heap.size #[.slice A p.length cap]) := t0
  have T1 : Hid (StBox _ (w.heap.size + 1) (.slice A1 s.frames.length a1) (.slice A2 s.heap.length a2) (.slice A3 s.out.length a3) s) := t1
  have T2 : Hid (Below w.heap.size w _) := t2
  clear t0 t1 t2
  go_enter Tryz.func54, Tryz.ntmps54
  go_wp2_with fail
  refine (specRightP _ p _ (Hr.out.below T2.out) Hp.out).mono ?_
  rintro e w1 ⟨b, rfl, hb1, hiff⟩
  have Hb1 : Hid (Below w.heap.size w w1) := T2.out.trans (hb1.mono T2.out.size)
  have B0 : Hid (Box w1 w.heap.size #[.slice A p.length cap]) := T0.out.below hb1
  have B1 : Hid (StBox w1 (w.heap.size + 1) (.slice A1 s.frames.length a1) (.slice A2 s.heap.length a2) (.slice A3 s.out.length a3) s) := T1.out.below hb1
  clear hb1 T0 T1 T2
  cases b with
  | false =>
    have HF : Hid (¬ StRightS p s) := fun h => by have := hiff.2 h.1; simp at this
    clear hiff
    go_wp2_with fail
    go_ret
    exact ⟨false, rfl, Hb1.out, by simpa using HF.out⟩
  | true =>
    have HR : Hid (RightP p) := hiff.1 rfl
    clear hiff
    obtain ⟨c7, c0, c1, c2, c3, c4, c5, c6⟩ := B1.out.cells
    go_wp2_with fail
    refine (specRest s.fuel _ _ s.heap s.out _ (Hs.out.2.1.below Hb1.out) (Hs.out.2.2.below Hb1.out) Hok.out.2.2.2.1).mono ?_
    rintro e w2 ⟨rfl, hb2⟩
    have Hb2 : Hid (Below w.heap.size w w2) := Hb1.out.trans (hb2.mono Hb1.out.size)
    have D0 : Hid (Box w2 w.heap.size #[.slice A p.length cap]) := B0.out.below hb2
    have D1 : Hid (StBox w2 (w.heap.size + 1) (.slice A1 s.frames.length a1) (.slice A2 s.heap.length a2) (.slice A3 s.out.length a3) s) := B1.out.below hb2
    clear hb2 B0 B1 c0 c1 c2 c3 c4 c5 c6 c7
    obtain ⟨br, hbr⟩ : ∃ br, br = restOk s := ⟨_, rfl⟩
    rw [show ((decide (0 ≤ s.fuel) && decide (s.fuel ≤ 3000)) && heapOk s.heap && decide ((s.out.length : Int) ≤ 3000 - s.fuel)) = br by rw [hbr]; rfl]
    cases br with
    | false =>
      have HF : Hid (¬ StRightS p s) := fun h => by rw [h.2.1] at hbr; simp at hbr
      clear hbr
      go_wp2_with fail
      go_ret
      exact ⟨false, rfl, Hb2.out, by simpa using HF.out⟩
    | true =>
      have Hbr : Hid (restOk s = true) := hbr.symm
      clear hbr
      obtain ⟨c7, c0, c1, c2, c3, c4, c5, c6⟩ := D1.out.cells
      by_cases hf0 : s.frames.length = 0
      · have hfn : s.frames = [] := List.length_eq_zero_iff.1 hf0
        have HT : Hid (StRightS p s ↔ (s.done && (s.trap == 0 || (decide (11 ≤ s.trap) && decide (s.trap ≤ 15) && s.value == 0))) = true) := by
          show StRightS p s ↔ _
          unfold StRightS toldOk
          rw [hfn]
          cases s.done with
          | false => simp
          | true => simp [HR.out, Hbr.out]
        clear hfn
        rw [hf0] at c0
        go_wp2_with fail
        refine (specEnds s.done s.value s.trap _).mono ?_
        rintro e w3 ⟨rfl, hb3⟩
        have Hb3 : Hid (Below w.heap.size w w3) := Hb2.out.trans (hb3.mono Hb2.out.size)
        clear hb3
        go_wp2_with fail
        go_ret
        exact ⟨_, rfl, Hb3.out, HT.out.symm⟩
      have hf0' : ((s.frames.length : Int) == 0) = false := by simpa using hf0
      by_cases hto : s.done = false ∧ s.value = 0 ∧ s.trap = 0 ∧ s.frames.length ≤ 10
      case neg =>
        have HF : Hid (¬ StRightS p s) := by
          intro h
          apply hto
          have ht := h.2.2.1
          unfold toldOk at ht
          cases hd : s.done with
          | true =>
            rw [hd] at ht
            cases hfr : s.frames with
            | nil => rw [hfr] at hf0; simp at hf0
            | cons a l => rw [hfr] at ht; simp at ht
          | false => rw [hd] at ht; simp at ht; exact ⟨rfl, ht.1.1.1, ht.1.1.2, ht.2⟩
        have Hto : Hid (¬ (s.done = false ∧ s.value = 0 ∧ s.trap = 0 ∧ s.frames.length ≤ 10)) := hto
        clear hto
        cases hdn : s.done with
        | true =>
          rw [hdn] at c4
          go_wp2_with fail
          go_ret
          exact ⟨false, rfl, Hb2.out, by simpa using HF.out⟩
        | false =>
          rw [hdn] at c4
          by_cases hv0 : s.value = 0
          case neg =>
            have hv0' : (s.value != 0) = true := by simpa using hv0
            go_wp2_with fail
            go_ret
            exact ⟨false, rfl, Hb2.out, by simpa using HF.out⟩
          by_cases ht0 : s.trap = 0
          case neg =>
            have ht0' : (s.trap != 0) = true := by simpa using ht0
            rw [hv0] at c5
            go_wp2_with fail
            go_ret
            exact ⟨false, rfl, Hb2.out, by simpa using HF.out⟩
          have h10 : (10 : Int) < s.frames.length := by
            rcases Nat.lt_or_ge 10 s.frames.length with h | h
            · omega
            · exact absurd ⟨hdn, hv0, ht0, h⟩ Hto.out
          rw [hv0] at c5
          rw [ht0] at c6
          go_wp2_with fail
          go_ret
          exact ⟨false, rfl, Hb2.out, by simpa using HF.out⟩
      obtain ⟨hdn, hv0, ht0, h10⟩ := hto
      have Hto : Hid (toldOk s = true) := by show toldOk s = true; unfold toldOk; rw [hdn, hv0, ht0]; simp; omega
      rw [hdn] at c4
      rw [hv0] at c5
      rw [ht0] at c6
      have h10' : decide ((10 : Int) < s.frames.length) = false := by simp; omega
      clear hdn hv0 ht0
      go_wp2_with fail
      go_loopg [5] (s.frames.length) (fun g i wr => ∃ k : Nat, k ≤ s.frames.length ∧ i = .int .i64 k ∧ s.frames.length ≤ k + g ∧ Box wr w.heap.size #[.slice A p.length cap] ∧ StBox wr (w.heap.size + 1) (.slice A1 s.frames.length a1) (.slice A2 s.heap.length a2) (.slice A3 s.out.length a3) s ∧ Below w.heap.size w wr ∧ ∀ j, j < k → FrOkS p s.frames j)
      case atStart => exact ⟨0, Nat.zero_le _, rfl, by omega, D0.out, D1.out, Hb2.out, fun j h => by omega⟩
      case round =>
        clear c0 c1 c2 c3 c4 c5 c6 c7
        obtain ⟨k, hk, rfl, hkg, hB0, hB1, hb, hall⟩ := hrel
        have Hb : Hid (Below w.heap.size w wr) := hb
        have HB0 : Hid (Box wr w.heap.size #[.slice A p.length cap]) := hB0
        have HB1 : Hid (StBox wr (w.heap.size + 1) (.slice A1 s.frames.length a1) (.slice A2 s.heap.length a2) (.slice A3 s.out.length a3) s) := hB1
        have Hall : Hid (∀ j, j < k → FrOkS p s.frames j) := hall
        have q0 := hB0.at0
        have z0 := hB0.1
        obtain ⟨z1, q1, -⟩ := hB1.cells
        clear hB0 hB1 hb hall
        by_cases hkl : k < s.frames.length
        · obtain ⟨f, hf⟩ : ∃ f, f = s.frames[k] := ⟨_, rfl⟩
          obtain ⟨bF, oF, x, y, rfl, hltF, f0, f1, f2, f3, hx, hy⟩ := (Hs.out.1.below Hb.out).at k hkl
          rw [← hf] at f0 f1 hx hy
          have hxl := hx.len
          have hyl := hy.len
          obtain ⟨Ax, cx, rfl⟩ := hx.form
          obtain ⟨Ay, cy, rfl⟩ := hy.form
          have hfok : f.ok := by rw [hf]; exact Hok.out.1 _ (List.getElem_mem hkl)
          have hfi : s.frames[k]? = some f := by rw [List.getElem?_eq_getElem hkl, hf]
          have Hif : Hid (FrOkS p s.frames k ↔ StandsOk p f.func f.pc f.locals.length f.stack.length ((nextF s.frames k).getD (-1))) := frOkS_iff hfi
          have hkl' : (k : Int) < s.frames.length := by omega
          have Hal : Hid (∀ o : Obj, Below wr.heap.size wr (wr.alloc o)) := fun o => (Below.refl _ _).alloc (Nat.le_refl _) _
          have hst := fun (W : World) (ab : Int) (hW : Below w.heap.size w W) (hab : I64 ab) => specStands (.slice A p.length cap) p f.func f.pc f.locals.length f.stack.length ab W (Hr.out.below hW) Hp.out HR.out hfok.1 hfok.2.1 hxl hyl hab
          have Hst : Hid (∀ (W : World) (ab : Int), Below w.heap.size w W → I64 ab → Calls Tryz.prog 108 #[.agg #[.slice A p.length cap], .int .i64 f.func, .int .i64 f.pc, .int .i64 f.locals.length, .int .i64 f.stack.length, .int .i64 ab] W fun e w' => TruthTold (StandsOk p f.func f.pc f.locals.length f.stack.length ab) W w' e) := hst
          obtain ⟨ab, hab⟩ : ∃ ab, ab = (nextF s.frames k).getD (-1) := ⟨_, rfl⟩
          rw [← hab] at Hif
          obtain ⟨W, hW⟩ : ∃ W, W = wr.alloc (.cells #[.int .i64 f.func, .int .i64 f.pc, .slice Ax f.locals.length cx, .slice Ay f.stack.length cy] 110) := ⟨_, rfl⟩
          have HwW : Hid (Below wr.heap.size wr W) := by rw [hW]; exact Hal.out _
          have HW : Hid (Below w.heap.size w W) := Hb.out.trans (HwW.out.mono Hb.out.size)
          clear hx hy hf hst hfok hfi
          by_cases hlast : k + 1 < s.frames.length
          · obtain ⟨bF', oF', x', y', hA', -, n0, -⟩ := (Hs.out.1.below Hb.out).at (k + 1) hlast
            simp only [Option.some.injEq, Addr.mk.injEq, and_true] at hA'
            obtain ⟨rfl, rfl⟩ := hA'
            have hab2 : ab = s.frames[k + 1].func := by rw [hab]; unfold nextF; rw [List.getElem?_eq_getElem hlast]; rfl
            have hIab : I64 ab := by rw [hab2]; exact (Hok.out.1 _ (List.getElem_mem hlast)).1
            rw [← hab2] at n0
            have hl2 : (k : Int) + 1 < s.frames.length := by omega
            clear hab hab2
            go_wp2_with fail
            rw [← hW]
            refine Calls.mono (R := fun e w' => TruthTold (StandsOk p f.func f.pc f.locals.length f.stack.length ab) W w' e) (Hst.out W ab HW.out hIab) ?_
            rintro e w3 ⟨b, rfl, hb3, hbi⟩
            have hb3' : Below wr.heap.size wr w3 := HwW.out.trans (hb3.mono HwW.out.size)
            have Hb3 : Hid (Below w.heap.size w w3) := Hb.out.trans (hb3'.mono Hb.out.size)
            have E0 : Hid (Box w3 w.heap.size #[.slice A p.length cap]) := HB0.out.below hb3'
            have E1 : Hid (StBox w3 (w.heap.size + 1) (.slice (some ⟨bF, oF, none⟩) s.frames.length a1) (.slice A2 s.heap.length a2) (.slice A3 s.out.length a3) s) := HB1.out.below hb3'
            clear hb3 hb3' q0 q1 z0 z1 hW n0 f0 f1 f2 f3
            cases b with
            | false =>
              have HF : Hid (¬ StRightS p s) := fun h => by have := hbi.2 (Hif.out.1 (h.2.2.2 k hkl)); simp at this
              clear hbi
              go_wp2_with fail
              go_ret
              exact ⟨false, rfl, Hb3.out, by simpa using HF.out⟩
            | true =>
              have HF : Hid (FrOkS p s.frames k) := Hif.out.2 (hbi.1 rfl)
              clear hbi
              go_wp2_with fail
              go_roundg (gk - 1)
              case measure => omega
              case rel => exact ⟨k + 1, by omega, by go_num, by omega, E0.out, E1.out, Hb3.out, fun j hj => if e : j = k then by subst e; exact HF.out else Hall.out j (by omega)⟩
          · have hab2 : ab = -1 := by rw [hab]; unfold nextF; rw [List.getElem?_eq_none (by omega)]; rfl
            have hIab : I64 ab := by rw [hab2]; unfold I64; omega
            have hl2 : decide ((k : Int) + 1 < s.frames.length) = false := by simp; omega
            clear hab
            subst hab2
            go_wp2_with fail
            rw [← hW]
            refine Calls.mono (R := fun e w' => TruthTold (StandsOk p f.func f.pc f.locals.length f.stack.length (-1)) W w' e) (Hst.out W (-1) HW.out hIab) ?_
            rintro e w3 ⟨b, rfl, hb3, hbi⟩
            have hb3' : Below wr.heap.size wr w3 := HwW.out.trans (hb3.mono HwW.out.size)
            have Hb3 : Hid (Below w.heap.size w w3) := Hb.out.trans (hb3'.mono Hb.out.size)
            have E0 : Hid (Box w3 w.heap.size #[.slice A p.length cap]) := HB0.out.below hb3'
            have E1 : Hid (StBox w3 (w.heap.size + 1) (.slice (some ⟨bF, oF, none⟩) s.frames.length a1) (.slice A2 s.heap.length a2) (.slice A3 s.out.length a3) s) := HB1.out.below hb3'
            clear hb3 hb3' q0 q1 z0 z1 hW f0 f1 f2 f3
            cases b with
            | false =>
              have HF : Hid (¬ StRightS p s) := fun h => by have := hbi.2 (Hif.out.1 (h.2.2.2 k hkl)); simp at this
              clear hbi
              go_wp2_with fail
              go_ret
              exact ⟨false, rfl, Hb3.out, by simpa using HF.out⟩
            | true =>
              have HF : Hid (FrOkS p s.frames k) := Hif.out.2 (hbi.1 rfl)
              clear hbi
              go_wp2_with fail
              go_roundg (gk - 1)
              case measure => omega
              case rel => exact ⟨k + 1, by omega, by go_num, by omega, E0.out, E1.out, Hb3.out, fun j hj => if e : j = k then by subst e; exact HF.out else Hall.out j (by omega)⟩
        · go_wp2_with fail
          go_ret
          exact ⟨true, rfl, Hb.out, by simpa using ⟨HR.out, Hbr.out, Hto.out, fun j hj => Hall.out j (by omega)⟩⟩
end Go.Proofs.YtnknnncehcofnaaGreatDoor
