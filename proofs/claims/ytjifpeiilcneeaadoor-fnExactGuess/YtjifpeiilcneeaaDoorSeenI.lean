/- impl.SeenRight. -/
import Derived.Test.YtjifpeiilcneeaaDoorSeenN
import Derived.Test.YtjifpeiilcneeaaDoorSeenO
import Derived.Test.YtjifpeiilcneeaaDoorVerI
namespace Go.Proofs.YtjifpeiilcneeaaDoor
open Go.RowKit

/-- a truth told -/
def SnTold (P : Prop) (w w' : World) (e : Ending) : Prop := ∃ b : Bool, e = .returned (.bool b) ∧ Below w.heap.size w w' ∧ (b = true ↔ P)

set_option maxRecDepth 100000 in
set_option maxHeartbeats 6400000 in
theorem implSeen (vp vl : Value) (p : List FnM) (l : List SnM) (w : World) (ht : Tab w) (hr : FnRow 0 w vp p) (hs : SnRow 0 w vl l) (hbk : bulk p ≤ 1048576) :
    Calls Tryd.prog 10 #[.agg #[vp], vl] w fun e w' => SnTold (SnRight p l) w w' e := by
  have Hr : Hid (FnRow 0 w vp p) := hr
  have Hs : Hid (SnRow 0 w vl l) := hs
  have Ht : Hid (Tab w) := ht
  have hll := hs.len
  obtain ⟨A, cap, rfl⟩ := hr.form
  obtain ⟨A1, a1, rfl⟩ := hs.form
  clear hr hs ht
  have X0 : Hid (Box _ w.heap.size #[.slice A p.length cap]) := box_new w #[.slice A p.length cap] 31
  have X2 : Hid (Below w.heap.size w (w.alloc (.cells #[.slice A p.length cap] 31))) := (Below.refl _ _).alloc (Nat.le_refl _) _
  have hfc := fieldCode
  by_cases h400 : l.length ≤ 400
  case neg =>
    have h400' : (400 : Int) < l.length := by omega
    have HF : Hid (¬ SnRight p l) := fun h => h400 h.1
    go_enter Tryd.func10, Tryd.ntmps10
    go_wp2_with fail
    go_ret
    exact ⟨false, rfl, X2.out, by simpa using HF.out⟩
  have h400' : decide ((400 : Int) < l.length) = false := by simp; omega
  go_enter Tryd.func10, Tryd.ntmps10
  go_wp2_with fail
  refine (implVerify _ p _ (Ht.out.below X2.out) (Hr.out.below X2.out)).mono ?_
  rintro e w1 ⟨F, A9, C, rfl, hb1, h1, h2⟩
  have hiff : C = 0 ↔ RightP p := verTold_right h1 h2
  have Hb1 : Hid (Below w.heap.size w w1) := X2.out.trans (hb1.mono X2.out.size)
  have B0 : Hid (Box w1 w.heap.size #[.slice A p.length cap]) := X0.out.below hb1
  clear hb1 X0 X2 h1 h2
  by_cases hC : C = 0
  case neg =>
    have HF : Hid (¬ SnRight p l) := fun h => hC (hiff.2 h.2.1)
    have hC' : (C != 0) = true := by simpa using hC
    clear hiff
    go_wp2_with fail
    go_ret
    exact ⟨false, rfl, Hb1.out, by simpa using HF.out⟩
  have HR : Hid (RightP p) := hiff.1 hC
  subst hC
  clear hiff
  have c0 := B0.out.at0
  have c1 := B0.out.1
  have hN := implNone (.slice A p.length cap) p w1 (Hr.out.below Hb1.out) hbk
  have HN : Hid (Calls Tryd.prog 22 #[.agg #[.slice A p.length cap]] w1 fun e w' => NoneTold p w1 w' e) := hN
  clear hN
  go_wp2_with fail
  refine Calls.mono (R := fun e w' => NoneTold p w1 w' e) HN.out ?_
  rintro e w2 ⟨g, rfl, hg, hM, hb2⟩
  have Hb2 : Hid (Below w.heap.size w w2) := Hb1.out.trans (hb2.mono Hb1.out.size)
  have HM : Hid (MapS w2 g (jzP p p.length)) := hM
  clear hM hb2 B0 c0 c1 HN h400'
  go_wp2_with fail
  go_loopg [23] (l.length) (fun gg i wr => ∃ k : Nat, k ≤ l.length ∧ i = .int .i64 k ∧ l.length ≤ k + gg ∧ Below w2.heap.size w2 wr ∧ ∀ j, j < k → SnOk p l j)
  case atStart => exact ⟨0, Nat.zero_le _, rfl, by omega, Below.refl _ _, fun j h => by omega⟩
  case round =>
    obtain ⟨k, hk, rfl, hkg, hb, hall⟩ := hrel
    have Hb : Hid (Below w2.heap.size w2 wr) := hb
    have Hall : Hid (∀ j, j < k → SnOk p l j) := hall
    clear hb hall
    by_cases hkl : k < l.length
    · obtain ⟨b0, off0, rfl, hlt, d0, d1, d2, d3⟩ := ((Hs.out.below Hb2.out).below Hb.out).at k hkl
      obtain ⟨s, hs⟩ : ∃ s, s = l[k] := ⟨_, rfl⟩
      have Hsn : Hid (snAt l k = s) := by show snAt l k = s; rw [snAt_get l k hkl, hs]
      rw [← hs] at d0 d1 d2 d3
      clear hs
      obtain ⟨f, a, u, t⟩ := s
      simp only at d0 d1 d2 d3
      have hal : Below wr.heap.size wr (wr.alloc (.cells #[.int .i64 f, .int .i64 a, .int .i64 u, .int .i64 t] 43)) := (Below.refl _ _).alloc (Nat.le_refl _) _
      have X1 : Hid (Box (wr.alloc (.cells #[.int .i64 f, .int .i64 a, .int .i64 u, .int .i64 t] 43)) wr.heap.size #[.int .i64 f, .int .i64 a, .int .i64 u, .int .i64 t]) := box_new wr _ _
      have Hal : Hid (Below w2.heap.size w2 (wr.alloc (.cells #[.int .i64 f, .int .i64 a, .int .i64 u, .int .i64 t] 43))) := Hb.out.trans (hal.mono Hb.out.size)
      clear hal
      go_wp2_with fail
      refine (implSpotOf _ _ _ _ _).mono ?_
      rintro e w3 ⟨rfl, hb3⟩
      have Hb3 : Hid (Below w2.heap.size w2 w3) := Hal.out.trans (hb3.mono Hal.out.size)
      have X3 : Hid (Box w3 wr.heap.size #[.int .i64 f, .int .i64 a, .int .i64 u, .int .i64 t]) := X1.out.below hb3
      have hlook := ((HM.out.below Hb3.out).look (f, a)).1
      rw [jz_zero, jz_iff] at hlook
      obtain ⟨bj, hbj⟩ : ∃ bj, bj = decide (JzAt p f a) := ⟨_, rfl⟩
      rw [← hbj] at hlook
      have Hbj : Hid (bj = decide (JzAt p f a)) := hbj
      have hlook' : (Instr.lookup 53 (.map (some g)) (.agg #[.int .i64 f, .int .i64 a]) true).run Tryd.prog w3 = .ok (.tuple #[.agg #[.int .i64 0, .int .i64 0], .bool bj]) w3 := hlook
      clear hb3 X1 hlook hbj d0 d1 d2 d3 Hal
      obtain ⟨w4, hw4⟩ : ∃ w4, w4 = w3.alloc (.cells #[.int .i64 0, .int .i64 0] 56) := ⟨_, rfl⟩
      have hal4 : Below w3.heap.size w3 w4 := by rw [hw4]; exact (Below.refl _ _).alloc (Nat.le_refl _) _
      have Hb4 : Hid (Below w2.heap.size w2 w4) := Hb3.out.trans (hal4.mono Hb3.out.size)
      have X4 : Hid (Box w4 wr.heap.size #[.int .i64 f, .int .i64 a, .int .i64 u, .int .i64 t]) := X3.out.below hal4
      have z3 := X3.out.1
      have c0 := X3.out.at0
      have c1 := X3.out.at1
      have c2 := X3.out.at2
      have c3 := X3.out.2 3
      simp at c3
      clear hal4
      cases bj with
      | false =>
        have HF : Hid (¬ SnRight p l) := fun h => by
          have := (h.2.2 k hkl).1
          rw [Hsn.out] at this
          have h2 := Hbj.out
          rw [decide_eq_true this] at h2
          cases h2
        go_wp2_with fail
        rw [← hw4]
        go_ret
        exact ⟨false, rfl, Hb2.out.trans (Hb4.out.mono Hb2.out.size), by simpa using HF.out⟩
      | true =>
        have HJ : Hid (JzAt p f a) := (of_decide_eq_true Hbj.out.symm : JzAt p f a)
        go_wp2_with fail
        rw [← hw4]
        clear hw4 hlook' c0 c1 c2 c3 z3 X3 Hbj
        refine (implCountsOf _ _ _ _ _).mono ?_
        rintro e w5 ⟨rfl, hb5⟩
        have Hb5 : Hid (Below w2.heap.size w2 w5) := Hb4.out.trans (hb5.mono Hb4.out.size)
        have X5 : Hid (Box w5 wr.heap.size #[.int .i64 f, .int .i64 a, .int .i64 u, .int .i64 t]) := X4.out.below hb5
        clear hb5 X4
        go_wp2_with fail
        refine (implCntRight _ _ _).mono ?_
        rintro e w6 ⟨rfl, hb6⟩
        have Hb6 : Hid (Below w2.heap.size w2 w6) := Hb5.out.trans (hb6.mono Hb5.out.size)
        have X6 : Hid (Box w6 wr.heap.size #[.int .i64 f, .int .i64 a, .int .i64 u, .int .i64 t]) := X5.out.below hb6
        clear hb6 X5
        obtain ⟨bc, hbc⟩ : ∃ bc, bc = decide ((0 ≤ u ∧ u ≤ 1000000) ∧ (0 ≤ t ∧ t ≤ 1000000) ∧ ¬ (u = 0 ∧ t = 0)) := ⟨_, rfl⟩
        rw [← hbc]
        have Hbc : Hid (bc = decide ((0 ≤ u ∧ u ≤ 1000000) ∧ (0 ≤ t ∧ t ≤ 1000000) ∧ ¬ (u = 0 ∧ t = 0))) := hbc
        clear hbc
        cases bc with
        | false =>
          have HF : Hid (¬ SnRight p l) := fun h => by
            have := (h.2.2 k hkl).2.1
            rw [Hsn.out] at this
            have h2 := of_decide_eq_false Hbc.out.symm
            exact h2 this
          go_wp2_with fail
          go_ret
          exact ⟨false, rfl, Hb2.out.trans (Hb6.out.mono Hb2.out.size), by simpa using HF.out⟩
        | true =>
          have HC : Hid (cntOk ⟨f, a, u, t⟩) := by
            have := of_decide_eq_true Hbc.out.symm
            exact this
          clear Hbc
          have z6 := X6.out.1
          have c0 := X6.out.at0
          have c1 := X6.out.at1
          have c2 := X6.out.at2
          have c3 := X6.out.2 3
          simp at c3
          rcases Nat.eq_zero_or_pos k with h0 | h0
          · subst h0
            have HO : Hid (SnOk p l 0) := ⟨by rw [Hsn.out]; exact HJ.out, by rw [Hsn.out]; exact HC.out, fun h => absurd h (by omega)⟩
            have HO1 : Hid (∀ j, j < 1 → SnOk p l j) := fun j hj => (show 0 = j by omega) ▸ HO.out
            go_wp2_with fail
            go_quiet (fail)
            go_wp2_with fail
            go_roundg (gk - 1)
            case measure => omega
            case rel => exact ⟨1, by omega, by go_num, by omega, below_drewN Hb6.out _, HO1.out⟩
          · have h0' : (0 : Int) < k := by omega
            obtain ⟨bb, offb, hEq, hltb, p0, p1, p2, p3⟩ := ((Hs.out.below Hb2.out).below Hb6.out).at (k - 1) (by omega)
            simp only [Option.some.injEq, Addr.mk.injEq, and_true] at hEq
            obtain ⟨rfl, rfl⟩ := hEq
            obtain ⟨s', hs'⟩ : ∃ s', s' = l[k - 1] := ⟨_, rfl⟩
            have Hsp : Hid (snAt l (k - 1) = s') := by show snAt l (k - 1) = s'; rw [snAt_get l (k - 1) (by omega), hs']
            rw [← hs'] at p0 p1 p2 p3
            clear hs'
            obtain ⟨f', a', u', t'⟩ := s'
            simp only at p0 p1 p2 p3
            obtain ⟨k', rfl⟩ : ∃ k', k = k' + 1 := ⟨k - 1, by omega⟩
            simp only [Nat.add_sub_cancel] at p0 p1 p2 p3 Hsp
            obtain ⟨r, hr⟩ : ∃ r, r = ordS (f', a') (f, a) := ⟨_, rfl⟩
            have Hr' : Hid (r = ordS (f', a') (f, a)) := hr
            have Hord : Hid (∀ W, Calls Tryd.prog 26 #[.agg #[.int .i64 f', .int .i64 a'], .agg #[.int .i64 f, .int .i64 a]] W fun e w' => e = .returned (.int .i64 r) ∧ Below W.heap.size W w') := fun W => by rw [hr]; exact implOrder f' a' f a W
            clear hr
            have hk400 : k' < 400 := by omega
            have hw1 : IntKind.i64.wrap (((k' + 1 : Nat) : Int) - 1) = (k' : Int) := by rw [IntKind.wrap_i64]; omega
            have hw2 : IntKind.i64.wrap ((k' : Int) + 1 - 1) = (k' : Int) := by rw [IntKind.wrap_i64]; omega
            have hw3 : IntKind.i64.wrap (k' : Int) = (k' : Int) := by rw [IntKind.wrap_i64]; omega
            have hkl2 : k' < l.length := by omega
            have hkl3 : (k' : Int) < l.length := by omega
            go_wp2_with fail
            go_cut [56] (fun q wc => q = .bool (decide (0 ≤ r)) ∧ Below w6.heap.size w6 wc)
            case first =>
              go_region_with (first
                | (go_at_call_of 23 (Value.int IntKind.i64 f'); refine (implSpotOf _ _ _ _ _).mono ?_; rintro e wP ⟨rfl, hbP0⟩
                   have hbP : Below w6.heap.size w6 wP := (Below.refl _ _).drew.trans (hbP0.mono (Nat.le_refl _))
                   have y6 := (X6.out.below hbP).1
                   have y0 := (X6.out.below hbP).at0
                   have y1 := (X6.out.below hbP).at1
                   have y2 := (X6.out.below hbP).at2
                   have y3 := (X6.out.below hbP).2 3
                   simp at y3)
                | (go_at_call_of 23 (Value.int IntKind.i64 f); refine (implSpotOf _ _ _ _ _).mono ?_; rintro e wQ ⟨rfl, hbQ0⟩
                   have hbQ : Below w6.heap.size w6 wQ := hbP.trans (hbQ0.mono hbP.size))
                | (go_at_call 26; refine (Hord.out _).mono ?_; rintro e wT ⟨rfl, hbT0⟩
                   have hbT : Below w6.heap.size w6 wT := hbQ.trans (hbT0.mono hbQ.size)))
              all_goals
                go_wp2_with fail
                go_meet
                exact ⟨rfl, hbT⟩
            case rest =>
              obtain ⟨rfl, hwc⟩ := hcut
              have Hwc : Hid (Below w2.heap.size w2 wc) := Hb6.out.trans (hwc.mono Hb6.out.size)
              clear hwc
              obtain ⟨br, hbr⟩ : ∃ br, br = decide (0 ≤ r) := ⟨_, rfl⟩
              rw [← hbr]
              have Hbr : Hid (br = decide (0 ≤ r)) := hbr
              clear hbr
              cases br with
              | true =>
                have HF : Hid (¬ SnRight p l) := fun h => by
                  have := (h.2.2 (k' + 1) hkl).2.2 (by omega)
                  rw [Hsn.out, Nat.add_sub_cancel, Hsp.out, ← ordS_less, ← Hr'.out] at this
                  have h2 := of_decide_eq_true Hbr.out.symm
                  omega
                go_wp2_with fail
                go_ret
                exact ⟨false, rfl, Hb2.out.trans (Hwc.out.mono Hb2.out.size), by simpa using HF.out⟩
              | false =>
                have HO : Hid (SnOk p l (k' + 1)) := ⟨by rw [Hsn.out]; exact HJ.out, by rw [Hsn.out]; exact HC.out, fun _ => by
                  rw [Hsn.out, Nat.add_sub_cancel, Hsp.out, ← ordS_less, ← Hr'.out]
                  have h2 := of_decide_eq_false Hbr.out.symm
                  omega⟩
                go_wp2_with fail
                go_roundg (gk - 1)
                case measure => omega
                case rel => exact ⟨k' + 1 + 1, by omega, by go_num, by omega, Hwc.out, fun j hj => if e : j = k' + 1 then by subst e; exact HO.out else Hall.out j (by omega)⟩
    · have HT : Hid (SnRight p l) := ⟨h400, HR.out, fun j hj => Hall.out j (by omega)⟩
      go_wp2_with fail
      go_ret
      exact ⟨true, rfl, Hb2.out.trans (Hb.out.mono Hb2.out.size), by simpa using HT.out⟩
end Go.Proofs.YtjifpeiilcneeaaDoor
