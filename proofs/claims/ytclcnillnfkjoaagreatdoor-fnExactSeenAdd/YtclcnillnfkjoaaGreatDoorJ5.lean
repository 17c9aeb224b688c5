/- impl.tally: addAll. impl.SeenRight. impl.SeenAdd. -/
import Derived.Test.YtclcnillnfkjoaaGreatDoorTalA
import Derived.Test.YtclcnillnfkjoaaGreatDoorVRow
import Derived.Test.YtclcnillnfkjoaaGreatDoorSnPutA
import Derived.Test.YtclcnillnfkjoaaGreatDoorJ7
import Derived.Test.YtclcnillnfkjoaaGreatDoorSeenO
import Derived.Test.YtclcnillnfkjoaaGreatDoorJ8
import Derived.Test.YtclcnillnfkjoaaGreatDoorTalB
namespace Go.Proofs.YtclcnillnfkjoaaGreatDoor
open Go.RowKit

/-- a tally with a profile added -/
def addAllL (L : PL) (l : List SnM) : PL := l.foldl (fun L s => addL L (s.func, s.pc) (s.went, s.past)) L
def addAllT (T : TMap) (l : List SnM) : TMap := l.foldl (fun T s => addT T (s.func, s.pc) (s.went, s.past)) T

theorem addAllL_snoc (L : PL) (l : List SnM) (s : SnM) : addAllL L (l ++ [s]) = addL (addAllL L l) (s.func, s.pc) (s.went, s.past) := by simp [addAllL]

theorem plT_addAll (L : PL) (l : List SnM) : plT (addAllL L l) = addAllT (plT L) l := by
  induction l generalizing L with
  | nil => rfl
  | cons s l ih =>
    show plT (addAllL (addL L (s.func, s.pc) (s.went, s.past)) l) = addAllT (addT (plT L) (s.func, s.pc) (s.went, s.past)) l
    rw [ih, plT_add]

theorem bnd_addAll {L : PL} (h : Bnd (plT L)) {l : List SnM} (hl : ∀ s ∈ l, cntOk s) : Bnd (plT (addAllL L l)) := by
  induction l generalizing L with
  | nil => exact h
  | cons s l ih =>
    have hs := hl s (by simp)
    show Bnd (plT (addAllL (addL L (s.func, s.pc) (s.went, s.past)) l))
    exact ih (by rw [plT_add]; exact h.add hs.1.1 hs.2.1.1) (fun x hx => hl x (by simp [hx]))

theorem putP_length (k v : Int × Int) (l : PL) : (putP k v l).length ≤ l.length + 1 := by
  induction l with
  | nil => simp [putP]
  | cons e l ih => unfold putP; split <;> simp <;> omega

theorem addAllL_length (L : PL) (l : List SnM) : (addAllL L l).length ≤ L.length + l.length := by
  induction l generalizing L with
  | nil => simp [addAllL]
  | cons s l ih =>
    have h1 := ih (addL L (s.func, s.pc) (s.went, s.past))
    have h2 : (addL L (s.func, s.pc) (s.went, s.past)).length ≤ L.length + 1 := putP_length _ _ _
    show (addAllL (addL L (s.func, s.pc) (s.went, s.past)) l).length ≤ _
    simp only [List.length_cons]
    omega

set_option maxRecDepth 100000 in
set_option maxHeartbeats 1600000 in
theorem implAddAll (B b : Nat) (L : PL) (v : Value) (l : List SnM) (w : World) (hM : MapS w b L) (hB : B ≤ b) (hBw : B ≤ w.heap.size) (hbd : Bnd (plT L)) (hl : ∀ s ∈ l, cntOk s) (hs : ∀ W, Below B w W → SnRow 0 W v l) (hlen : l.length ≤ 1048576) :
    Calls Tryz.prog 52 #[.map (some b), v] w fun e w' => TalTold b (addAllL L l) B w w' e := by
  obtain ⟨A, cap, rfl⟩ := (hs w (Below.refl _ _)).form
  have Hs : Hid (∀ W, Below B w W → SnRow 0 W (.slice A l.length cap) l) := hs
  have HM : Hid (MapS w b L) := hM
  have Hbd : Hid (∀ q, Bnd (plT (addAllL L (l.take q)))) := fun q => bnd_addAll hbd (fun s hs => hl s (List.mem_of_mem_take hs))
  have Hl : Hid (∀ s ∈ l, cntOk s) := hl
  clear hs hM hbd hl
  have HA : Hid (∀ q W f a u t, MapS W b (addAllL L (l.take q)) → B ≤ W.heap.size → cntOk ⟨f, a, u, t⟩ → Calls Tryz.prog 82 #[.map (some b), .agg #[.int .i64 f, .int .i64 a], .agg #[.int .i64 u, .int .i64 t]] W fun e w' => TalTold b (addL (addAllL L (l.take q)) (f, a) (u, t)) B W w' e) := fun q W f a u t hM hBW hc => implAdd B b _ f a u t W hM hB hBW (Hbd.out q) hc.1 hc.2.1
  go_enter Tryz.func52, Tryz.ntmps52
  go_wp2_with fail
  go_loopg [5, 8] (l.length) (fun g x i wr => ∃ q : Nat, q ≤ l.length ∧ i = .int .i64 (q : Int) ∧ l.length ≤ q + g ∧ Below B w wr ∧ MapS wr b (addAllL L (l.take q)))
  case atStart => exact ⟨0, Nat.zero_le _, rfl, by omega, Below.refl _ _, HM.out⟩
  case round =>
    clear HM
    obtain ⟨q, hq, rfl, hqg, hb, hM⟩ := hrel
    have Hb : Hid (Below B w wr) := hb
    have HM : Hid (MapS wr b (addAllL L (l.take q))) := hM
    have HBr : Hid (B ≤ wr.heap.size) := Nat.le_trans hBw hb.size
    clear hb hM
    by_cases hql : q < l.length
    · obtain ⟨b0, off0, rfl, hlt0, d0, d1, d2, d3⟩ := (Hs.out wr Hb.out).at q hql
      obtain ⟨s, hs⟩ : ∃ s, s = l[q] := ⟨_, rfl⟩
      have hcs : cntOk s := by rw [hs]; exact Hl.out _ (List.getElem_mem hql)
      have HN : Hid (addAllL L (l.take (q + 1)) = addL (addAllL L (l.take q)) (s.func, s.pc) (s.went, s.past)) := by
        show _ = _
        rw [List.take_add_one, List.getElem?_eq_getElem hql, ← hs]
        exact addAllL_snoc _ _ _
      rw [← hs] at d0 d1 d2 d3
      clear hs
      obtain ⟨f, a, u, t⟩ := s
      simp only at d0 d1 d2 d3
      have Hcs : Hid (cntOk ⟨f, a, u, t⟩) := hcs
      clear hcs
      have HX : Hid (VRow _ wr.heap.size [.int .i64 f, .int .i64 a, .int .i64 u, .int .i64 t]) := vrow_new wr #[.int .i64 f, .int .i64 a, .int .i64 u, .int .i64 t] 83
      have Hal : Hid (Below wr.heap.size wr (wr.alloc (.cells #[.int .i64 f, .int .i64 a, .int .i64 u, .int .i64 t] 83))) := (Below.refl _ _).alloc (Nat.le_refl _) _
      go_wp2_with fail
      obtain ⟨w4, hw4⟩ : ∃ w4, w4 = wr.alloc (.cells #[.int .i64 f, .int .i64 a, .int .i64 u, .int .i64 t] 83) := ⟨_, rfl⟩
      rw [← hw4] at HX Hal ⊢
      clear hw4 d0 d1 d2 d3 hlt0
      obtain ⟨cz, c0, c1, c2, c3⟩ := four_vrow HX.out
      have HM4 : Hid (MapS w4 b (addAllL L (l.take q))) := HM.out.below Hal.out
      have HB4 : Hid (Below B w w4 ∧ B ≤ w4.heap.size) := ⟨Hb.out.trans (Hal.out.mono HBr.out), Nat.le_trans HBr.out Hal.out.size⟩
      have HA4 : Hid (∀ W, Below w4.heap.size w4 W → Calls Tryz.prog 82 #[.map (some b), .agg #[.int .i64 f, .int .i64 a], .agg #[.int .i64 u, .int .i64 t]] W fun e w' => TalTold b (addL (addAllL L (l.take q)) (f, a) (u, t)) B W w' e) := fun W hW => HA.out q W f a u t (HM4.out.below hW) (Nat.le_trans HB4.out.2 hW.size) Hcs.out
      go_region_with (first
        | (go_at_call 78; refine (implSpotOf _ _ _ _ _).mono ?_; rintro e wP ⟨rfl, hbP⟩
           first
           | (have hP' : Below w4.heap.size w4 wP := (Below.refl _ _).drew.trans (hbP.mono (Nat.le_refl _))
              obtain ⟨pz, p0, p1, p2, p3⟩ := four_vrow (HX.out.below hP'))
           | (have hP' : Below w4.heap.size w4 wP := hQ'.trans (hbP.mono hQ'.size)
              obtain ⟨pz, p0, p1, p2, p3⟩ := four_vrow (HX.out.below hP')))
        | (go_at_call 79; refine (implCountsOf _ _ _ _ _).mono ?_; rintro e wQ ⟨rfl, hbQ⟩
           first
           | (have hQ' : Below w4.heap.size w4 wQ := (Below.refl _ _).drew.trans (hbQ.mono (Nat.le_refl _))
              obtain ⟨qz, q0, q1, q2, q3⟩ := four_vrow (HX.out.below hQ'))
           | (have hQ' : Below w4.heap.size w4 wQ := hP'.trans (hbQ.mono hP'.size)
              obtain ⟨qz, q0, q1, q2, q3⟩ := four_vrow (HX.out.below hQ')))
        | (go_at_call 82; refine Calls.mono (HA4.out _ ?hb) ?_
           case hb => first | exact hQ' | exact hP'
           rintro e w9 ⟨rfl, hM9, hb9⟩))
      all_goals
        have H9 : Hid (Below B w w9 ∧ MapS w9 b (addAllL L (l.take (q + 1)))) := by
          refine ⟨HB4.out.1.trans (Below.trans (Below.mono ?_ HB4.out.2) hb9), by rw [HN.out]; exact hM9⟩
          first | exact hQ' | exact hP'
        clear hb9 hM9
        go_wp2_with fail
        go_roundg (gk - 1)
        case measure => omega
        case rel => exact ⟨q + 1, by omega, by go_num, by omega, H9.out.1, H9.out.2⟩
    · have hqe : q = l.length := by omega
      subst hqe
      have hMM := HM.out
      rw [List.take_length] at hMM
      go_wp2_with fail
      go_end0
      exact ⟨rfl, hMM, Hb.out⟩
end Go.Proofs.YtclcnillnfkjoaaGreatDoor

namespace Go.Proofs.YtclcnillnfkjoaaGreatDoor
open Go.RowKit

/-- a truth told -/
def SnTold (P : Prop) (w w' : World) (e : Ending) : Prop := ∃ b : Bool, e = .returned (.bool b) ∧ Below w.heap.size w w' ∧ (b = true ↔ P)

set_option maxRecDepth 100000 in
set_option maxHeartbeats 6400000 in
theorem implSeen (vp vl : Value) (p : List FnM) (l : List SnM) (w : World) (ht : Tab w) (hr : FnRow 0 w vp p) (hs : SnRow 0 w vl l) (hbk : bulk p ≤ 1048576) :
    Calls Tryz.prog 50 #[.agg #[vp], vl] w fun e w' => SnTold (SnRight p l) w w' e := by
  have Hr : Hid (FnRow 0 w vp p) := hr
  have Hs : Hid (SnRow 0 w vl l) := hs
  have Ht : Hid (Tab w) := ht
  have hll := hs.len
  obtain ⟨A, cap, rfl⟩ := hr.form
  obtain ⟨A1, a1, rfl⟩ := hs.form
  clear hr hs ht
  have X0 : Hid (Box _ w.heap.size #[.slice A p.length cap]) := box_new w #[.slice A p.length cap] 25
  have X2 : Hid (Below w.heap.size w (w.alloc (.cells #[.slice A p.length cap] 25))) := (Below.refl _ _).alloc (Nat.le_refl _) _
  have hfc := fieldCode
  by_cases h400 : l.length ≤ 400
  case neg =>
    have h400' : (400 : Int) < l.length := by omega
    have HF : Hid (¬ SnRight p l) := fun h => h400 h.1
    go_enter Tryz.func50, Tryz.ntmps50
    go_wp2_with fail
    go_ret
    exact ⟨false, rfl, X2.out, by simpa using HF.out⟩
  have h400' : decide ((400 : Int) < l.length) = false := by simp; omega
  go_enter Tryz.func50, Tryz.ntmps50
  go_wp2_with fail
  refine (implVerify _ p _ (Ht.out.below X2.out) (Hr.out.below X2.out)).mono ?_
  rintro e w1 ⟨F, A9, C, rfl, hb1, h1, h2⟩
  have hiff : C = 0 ↔ RightP p := verTold_right h1 h2
  have Hb1 : Hid (Below w.heap.size w w1) := X2.out.trans (hb1.mono X2.out.size)
  have B0 : Hid (Box w1 w.heap.size #[.slice A p.length cap]) := X0.out.below hb1
  clear hb1 X0 X2 h1 h2
  by_cases hC : C = 0
  case neg =>
    have HF : Hid (¬ SnRight p l) := fun h => hC (hiff.2 h.2.1)
    have hC' : (C != 0) = true := by simpa using hC
    clear hiff
    go_wp2_with fail
    go_ret
    exact ⟨false, rfl, Hb1.out, by simpa using HF.out⟩
  have HR : Hid (RightP p) := hiff.1 hC
  subst hC
  clear hiff
  have c0 := B0.out.at0
  have c1 := B0.out.1
  have hN := implNone (.slice A p.length cap) p w1 (Hr.out.below Hb1.out) hbk
  have HN : Hid (Calls Tryz.prog 51 #[.agg #[.slice A p.length cap]] w1 fun e w' => NoneTold p w1 w' e) := hN
  clear hN
  go_wp2_with fail
  refine Calls.mono (R := fun e w' => NoneTold p w1 w' e) HN.out ?_
  rintro e w2 ⟨g, rfl, hg, hM, hb2⟩
  have Hb2 : Hid (Below w.heap.size w w2) := Hb1.out.trans (hb2.mono Hb1.out.size)
  have HM : Hid (MapS w2 g (jzP p p.length)) := hM
  clear hM hb2 B0 c0 c1 HN h400'
  go_wp2_with fail
  go_loopg [23] (l.length) (fun gg i wr => ∃ k : Nat, k ≤ l.length ∧ i = .int .i64 k ∧ l.length ≤ k + gg ∧ Below w2.heap.size w2 wr ∧ ∀ j, j < k → SnOk p l j)
  case atStart => exact ⟨0, Nat.zero_le _, rfl, by omega, Below.refl _ _, fun j h => by omega⟩
  case round =>
    obtain ⟨k, hk, rfl, hkg, hb, hall⟩ := hrel
    have Hb : Hid (Below w2.heap.size w2 wr) := hb
    have Hall : Hid (∀ j, j < k → SnOk p l j) := hall
    clear hb hall
    by_cases hkl : k < l.length
    · obtain ⟨b0, off0, rfl, hlt, d0, d1, d2, d3⟩ := ((Hs.out.below Hb2.out).below Hb.out).at k hkl
      obtain ⟨s, hs⟩ : ∃ s, s = l[k] := ⟨_, rfl⟩
      have Hsn : Hid (snAt l k = s) := by show snAt l k = s; rw [snAt_get l k hkl, hs]
      rw [← hs] at d0 d1 d2 d3
      clear hs
      obtain ⟨f, a, u, t⟩ := s
      simp only at d0 d1 d2 d3
      have hal : Below wr.heap.size wr (wr.alloc (.cells #[.int .i64 f, .int .i64 a, .int .i64 u, .int .i64 t] 83)) := (Below.refl _ _).alloc (Nat.le_refl _) _
      have X1 : Hid (Box (wr.alloc (.cells #[.int .i64 f, .int .i64 a, .int .i64 u, .int .i64 t] 83)) wr.heap.size #[.int .i64 f, .int .i64 a, .int .i64 u, .int .i64 t]) := box_new wr _ _
      have Hal : Hid (Below w2.heap.size w2 (wr.alloc (.cells #[.int .i64 f, .int .i64 a, .int .i64 u, .int .i64 t] 83))) := Hb.out.trans (hal.mono Hb.out.size)
      clear hal
      go_wp2_with fail
      refine (implSpotOf _ _ _ _ _).mono ?_
      rintro e w3 ⟨rfl, hb3⟩
      have Hb3 : Hid (Below w2.heap.size w2 w3) := Hal.out.trans (hb3.mono Hal.out.size)
      have X3 : Hid (Box w3 wr.heap.size #[.int .i64 f, .int .i64 a, .int .i64 u, .int .i64 t]) := X1.out.below hb3
      have hlook := ((HM.out.below Hb3.out).look (f, a)).1
      rw [jz_zero, jz_iff] at hlook
      obtain ⟨bj, hbj⟩ : ∃ bj, bj = decide (JzAt p f a) := ⟨_, rfl⟩
      rw [← hbj] at hlook
      have Hbj : Hid (bj = decide (JzAt p f a)) := hbj
      have hlook' : (Instr.lookup 88 (.map (some g)) (.agg #[.int .i64 f, .int .i64 a]) true).run Tryz.prog w3 = .ok (.tuple #[.agg #[.int .i64 0, .int .i64 0], .bool bj]) w3 := hlook
      clear hb3 X1 hlook hbj d0 d1 d2 d3 Hal
      obtain ⟨w4, hw4⟩ : ∃ w4, w4 = w3.alloc (.cells #[.int .i64 0, .int .i64 0] 128) := ⟨_, rfl⟩
      have hal4 : Below w3.heap.size w3 w4 := by rw [hw4]; exact (Below.refl _ _).alloc (Nat.le_refl _) _
      have Hb4 : Hid (Below w2.heap.size w2 w4) := Hb3.out.trans (hal4.mono Hb3.out.size)
      have X4 : Hid (Box w4 wr.heap.size #[.int .i64 f, .int .i64 a, .int .i64 u, .int .i64 t]) := X3.out.below hal4
      have z3 := X3.out.1
      have c0 := X3.out.at0
      have c1 := X3.out.at1
      have c2 := X3.out.at2
      have c3 := X3.out.2 3
      simp at c3
      clear hal4
      cases bj with
      | false =>
        have HF : Hid (¬ SnRight p l) := fun h => by
          have := (h.2.2 k hkl).1
          rw [Hsn.out] at this
          have h2 := Hbj.out
          rw [decide_eq_true this] at h2
          cases h2
        go_wp2_with fail
        rw [← hw4]
        go_ret
        exact ⟨false, rfl, Hb2.out.trans (Hb4.out.mono Hb2.out.size), by simpa using HF.out⟩
      | true =>
        have HJ : Hid (JzAt p f a) := (of_decide_eq_true Hbj.out.symm : JzAt p f a)
        go_wp2_with fail
        rw [← hw4]
        clear hw4 hlook' c0 c1 c2 c3 z3 X3 Hbj
        refine (implCountsOf _ _ _ _ _).mono ?_
        rintro e w5 ⟨rfl, hb5⟩
        have Hb5 : Hid (Below w2.heap.size w2 w5) := Hb4.out.trans (hb5.mono Hb4.out.size)
        have X5 : Hid (Box w5 wr.heap.size #[.int .i64 f, .int .i64 a, .int .i64 u, .int .i64 t]) := X4.out.below hb5
        clear hb5 X4
        go_wp2_with fail
        refine (implCntRight _ _ _).mono ?_
        rintro e w6 ⟨rfl, hb6⟩
        have Hb6 : Hid (Below w2.heap.size w2 w6) := Hb5.out.trans (hb6.mono Hb5.out.size)
        have X6 : Hid (Box w6 wr.heap.size #[.int .i64 f, .int .i64 a, .int .i64 u, .int .i64 t]) := X5.out.below hb6
        clear hb6 X5
        obtain ⟨bc, hbc⟩ : ∃ bc, bc = decide ((0 ≤ u ∧ u ≤ 1000000) ∧ (0 ≤ t ∧ t ≤ 1000000) ∧ ¬ (u = 0 ∧ t = 0)) := ⟨_, rfl⟩
        rw [← hbc]
        have Hbc : Hid (bc = decide ((0 ≤ u ∧ u ≤ 1000000) ∧ (0 ≤ t ∧ t ≤ 1000000) ∧ ¬ (u = 0 ∧ t = 0))) := hbc
        clear hbc
        cases bc with
        | false =>
          have HF : Hid (¬ SnRight p l) := fun h => by
            have := (h.2.2 k hkl).2.1
            rw [Hsn.out] at this
            have h2 := of_decide_eq_false Hbc.out.symm
            exact h2 this
          go_wp2_with fail
          go_ret
          exact ⟨false, rfl, Hb2.out.trans (Hb6.out.mono Hb2.out.size), by simpa using HF.out⟩
        | true =>
          have HC : Hid (cntOk ⟨f, a, u, t⟩) := by
            have := of_decide_eq_true Hbc.out.symm
            exact this
          clear Hbc
          have z6 := X6.out.1
          have c0 := X6.out.at0
          have c1 := X6.out.at1
          have c2 := X6.out.at2
          have c3 := X6.out.2 3
          simp at c3
          rcases Nat.eq_zero_or_pos k with h0 | h0
          · subst h0
            have HO : Hid (SnOk p l 0) := ⟨by rw [Hsn.out]; exact HJ.out, by rw [Hsn.out]; exact HC.out, fun h => absurd h (by omega)⟩
            have HO1 : Hid (∀ j, j < 1 → SnOk p l j) := fun j hj => (show 0 = j by omega) ▸ HO.out
            go_wp2_with fail
            go_quiet (fail)
            go_wp2_with fail
            go_roundg (gk - 1)
            case measure => omega
            case rel => exact ⟨1, by omega, by go_num, by omega, below_drewN Hb6.out _, HO1.out⟩
          · have h0' : (0 : Int) < k := by omega
            obtain ⟨bb, offb, hEq, hltb, p0, p1, p2, p3⟩ := ((Hs.out.below Hb2.out).below Hb6.out).at (k - 1) (by omega)
            simp only [Option.some.injEq, Addr.mk.injEq, and_true] at hEq
            obtain ⟨rfl, rfl⟩ := hEq
            obtain ⟨s', hs'⟩ : ∃ s', s' = l[k - 1] := ⟨_, rfl⟩
            have Hsp : Hid (snAt l (k - 1) = s') := by show snAt l (k - 1) = s'; rw [snAt_get l (k - 1) (by omega), hs']
            rw [← hs'] at p0 p1 p2 p3
            clear hs'
            obtain ⟨f', a', u', t'⟩ := s'
            simp only at p0 p1 p2 p3
            obtain ⟨k', rfl⟩ : ∃ k', k = k' + 1 := ⟨k - 1, by omega⟩
            simp only [Nat.add_sub_cancel] at p0 p1 p2 p3 Hsp
            obtain ⟨r, hr⟩ : ∃ r, r = ordS (f', a') (f, a) := ⟨_, rfl⟩
            have Hr' : Hid (r = ordS (f', a') (f, a)) := hr
            have Hord : Hid (∀ W, Calls Tryz.prog 81 #[.agg #[.int .i64 f', .int .i64 a'], .agg #[.int .i64 f, .int .i64 a]] W fun e w' => e = .returned (.int .i64 r) ∧ Below W.heap.size W w') := fun W => by rw [hr]; exact implOrder f' a' f a W
            clear hr
            have hk400 : k' < 400 := by omega
            have hw1 : IntKind.i64.wrap (((k' + 1 : Nat) : Int) - 1) = (k' : Int) := by rw [IntKind.wrap_i64]; omega
            have hw2 : IntKind.i64.wrap ((k' : Int) + 1 - 1) = (k' : Int) := by rw [IntKind.wrap_i64]; omega
            have hw3 : IntKind.i64.wrap (k' : Int) = (k' : Int) := by rw [IntKind.wrap_i64]; omega
            have hkl2 : k' < l.length := by omega
            have hkl3 : (k' : Int) < l.length := by omega
            go_wp2_with fail
            go_cut [56] (fun q wc => q = .bool (decide (0 ≤ r)) ∧ Below w6.heap.size w6 wc)
            case first =>
              go_region_with (first
                | (go_at_call_of 78 (Value.int IntKind.i64 f'); refine (implSpotOf _ _ _ _ _).mono ?_; rintro e wP ⟨rfl, hbP0⟩
                   have hbP : Below w6.heap.size w6 wP := (Below.refl _ _).drew.trans (hbP0.mono (Nat.le_refl _))
                   have y6 := (X6.out.below hbP).1
                   have y0 := (X6.out.below hbP).at0
                   have y1 := (X6.out.below hbP).at1
                   have y2 := (X6.out.below hbP).at2
                   have y3 := (X6.out.below hbP).2 3
                   simp at y3)
                | (go_at_call_of 78 (Value.int IntKind.i64 f); refine (implSpotOf _ _ _ _ _).mono ?_; rintro e wQ ⟨rfl, hbQ0⟩
                   have hbQ : Below w6.heap.size w6 wQ := hbP.trans (hbQ0.mono hbP.size))
                | (go_at_call 81; refine (Hord.out _).mono ?_; rintro e wT ⟨rfl, hbT0⟩
                   have hbT : Below w6.heap.size w6 wT := hbQ.trans (hbT0.mono hbQ.size)))
              all_goals
                go_wp2_with fail
                go_meet
                exact ⟨rfl, hbT⟩
            case rest =>
              obtain ⟨rfl, hwc⟩ := hcut
              have Hwc : Hid (Below w2.heap.size w2 wc) := Hb6.out.trans (hwc.mono Hb6.out.size)
              clear hwc
              obtain ⟨br, hbr⟩ : ∃ br, br = decide (0 ≤ r) := ⟨_, rfl⟩
              rw [← hbr]
              have Hbr : Hid (br = decide (0 ≤ r)) := hbr
              clear hbr
              cases br with
              | true =>
                have HF : Hid (¬ SnRight p l) := fun h => by
                  have := (h.2.2 (k' + 1) hkl).2.2 (by omega)
                  rw [Hsn.out, Nat.add_sub_cancel, Hsp.out, ← ordS_less, ← Hr'.out] at this
                  have h2 := of_decide_eq_true Hbr.out.symm
                  omega
                go_wp2_with fail
                go_ret
                exact ⟨false, rfl, Hb2.out.trans (Hwc.out.mono Hb2.out.size), by simpa using HF.out⟩
              | false =>
                have HO : Hid (SnOk p l (k' + 1)) := ⟨by rw [Hsn.out]; exact HJ.out, by rw [Hsn.out]; exact HC.out, fun _ => by
                  rw [Hsn.out, Nat.add_sub_cancel, Hsp.out, ← ordS_less, ← Hr'.out]
                  have h2 := of_decide_eq_false Hbr.out.symm
                  omega⟩
                go_wp2_with fail
                go_roundg (gk - 1)
                case measure => omega
                case rel => exact ⟨k' + 1 + 1, by omega, by go_num, by omega, Hwc.out, fun j hj => if e : j = k' + 1 then by subst e; exact HO.out else Hall.out j (by omega)⟩
    · have HT : Hid (SnRight p l) := ⟨h400, HR.out, fun j hj => Hall.out j (by omega)⟩
      go_wp2_with fail
      go_ret
      exact ⟨true, rfl, Hb2.out.trans (Hb.out.mono Hb2.out.size), by simpa using HT.out⟩
end Go.Proofs.YtclcnillnfkjoaaGreatDoor

namespace Go.Proofs.YtclcnillnfkjoaaGreatDoor
open Go.RowKit

/-- what SeenAdd tells -/
def AddIs (p : List FnM) (a b l : List SnM) : Prop := ((SnRight p a ∧ SnRight p b) ∧ TellsT l (addAllT (addAllT (fun _ => (0, 0)) a) b)) ∨ (¬ (SnRight p a ∧ SnRight p b) ∧ l = [])

theorem AddIs.unique {p : List FnM} {a b l l' : List SnM} (h : AddIs p a b l) (k : AddIs p a b l') : l = l' := by
  rcases h with ⟨h1, h2⟩ | ⟨h1, h2⟩
  · rcases k with ⟨_, k2⟩ | ⟨k1, _⟩
    · exact h2.unique k2
    · exact absurd h1 k1
  · rcases k with ⟨k1, _⟩ | ⟨_, k2⟩
    · exact absurd k1 h1
    · rw [h2, k2]

theorem SnRight.cnt {p : List FnM} {l : List SnM} (h : SnRight p l) : ∀ s ∈ l, cntOk s := fun s hs => by
  obtain ⟨k, hk, rfl⟩ := List.getElem_of_mem hs
  have := (h.2.2 k hk).2.1
  rwa [snAt_get l k hk] at this

theorem SnRight.rises {p : List FnM} {l : List SnM} (h : SnRight p l) : l.Pairwise snLess := by
  have hstep : ∀ k (h1 : k + 1 < l.length), snLess l[k] l[k + 1] := fun k h1 => by
    have := (h.2.2 (k + 1) h1).2.2 (by omega)
    rw [snAt_get l (k + 1) h1, Nat.add_sub_cancel, snAt_get l k (by omega)] at this
    exact this
  rw [List.pairwise_iff_getElem]
  intro i j hi hj hij
  induction j with
  | zero => omega
  | succ j ih =>
    rcases Nat.lt_or_ge i j with h1 | h1
    · exact snLess_trans (ih (by omega) h1) (hstep j hj)
    · obtain rfl : i = j := by omega
      exact hstep i hj

def AddTold (p : List FnM) (a b : List SnM) (w w' : World) (e : Ending) : Prop := ∃ v l, e = .returned v ∧ SnV w.heap.size w' v l ∧ AddIs p a b l ∧ l.length ≤ 1000000 ∧ Below w.heap.size w w'

theorem jzC_length (f : Nat) (c : List (Int × Int)) : ∀ n, (jzC f c n).length ≤ n
  | 0 => Nat.le_refl _
  | n + 1 => by
    have := jzC_length f c n
    unfold jzC
    rw [List.length_append]
    split <;> simp <;> omega

theorem jzP_length {p : List FnM} (h : RightP p) : ∀ n, n ≤ p.length → (jzP p n).length ≤ n * 1000
  | 0, _ => Nat.le_refl _
  | n + 1, hn => by
    have h1 := jzP_length h n (by omega)
    have h2 := jzC_length n (fnAt p n).code (fnAt p n).code.length
    have h3 : (fnAt p n).code.length ≤ 1000 := by
      obtain ⟨w1, _, _⟩ := ((h.all.2.2 n (by omega)).well rfl)
      simp [formOk] at w1
      omega
    show (jzP p n ++ jzC n (fnAt p n).code (fnAt p n).code.length).length ≤ _
    rw [List.length_append]
    omega

set_option maxRecDepth 100000 in
set_option maxHeartbeats 3200000 in
theorem implSeenAdd (vp va vb : Value) (p : List FnM) (a b : List SnM) (w : World) (ht : Tab w) (hr : FnRow 0 w vp p) (ha : SnRow 0 w va a) (hb : SnRow 0 w vb b) (hbk : bulk p ≤ 1048576) :
    Calls Tryz.prog 18 #[.agg #[vp], va, vb] w fun e w' => AddTold p a b w w' e := by
  have Hr : Hid (FnRow 0 w vp p) := hr
  have Ha : Hid (SnRow 0 w va a) := ha
  have Hb : Hid (SnRow 0 w vb b) := hb
  have Ht : Hid (Tab w) := ht
  obtain ⟨A, cap, rfl⟩ := hr.form
  obtain ⟨A1, a1, rfl⟩ := ha.form
  obtain ⟨B1, b1, rfl⟩ := hb.form
  clear hr ha hb ht
  have X0 : Hid (Box _ w.heap.size #[.slice A p.length cap]) := box_new w #[.slice A p.length cap] 25
  have X2 : Hid (Below w.heap.size w (w.alloc (.cells #[.slice A p.length cap] 25))) := (Below.refl _ _).alloc (Nat.le_refl _) _
  have HSa : Hid (∀ W, Below w.heap.size w W → Calls Tryz.prog 50 #[.agg #[.slice A p.length cap], .slice A1 a.length a1] W fun e w' => SnTold (SnRight p a) W w' e) := fun W h => implSeen (.slice A p.length cap) (.slice A1 a.length a1) p a W (Ht.out.below h) (Hr.out.below h) (Ha.out.below h) hbk
  have HSb : Hid (∀ W, Below w.heap.size w W → Calls Tryz.prog 50 #[.agg #[.slice A p.length cap], .slice B1 b.length b1] W fun e w' => SnTold (SnRight p b) W w' e) := fun W h => implSeen (.slice A p.length cap) (.slice B1 b.length b1) p b W (Ht.out.below h) (Hr.out.below h) (Hb.out.below h) hbk
  go_enter Tryz.func18, Tryz.ntmps18
  go_wp2_with fail
  refine Calls.mono (R := fun e w' => SnTold (SnRight p a) _ w' e) (HSa.out _ X2.out) ?_
  rintro e w1 ⟨ba, rfl, hb1, hia⟩
  have Hb1 : Hid (Below w.heap.size w w1) := X2.out.trans (hb1.mono X2.out.size)
  have HB : Hid (Box w1 w.heap.size #[.slice A p.length cap]) := X0.out.below hb1
  have Hia : Hid (ba = true ↔ SnRight p a) := hia
  clear hb1 X0 X2 hia HSa
  cases ba with
  | false =>
    have HF : Hid (AddIs p a b []) := .inr ⟨fun h => by simpa using Hia.out.2 h.1, rfl⟩
    go_wp2_with fail
    go_ret
    exact ⟨.slice none 0 0, [], rfl, World.ownsRow_nil _ _ _ _, HF.out, by simp, Hb1.out⟩
  | true =>
    have HRa : Hid (SnRight p a) := Hia.out.1 rfl
    have c0 := HB.out.at0
    have cz := HB.out.1
    clear Hia
    go_wp2_with fail
    refine Calls.mono (R := fun e w' => SnTold (SnRight p b) _ w' e) (HSb.out _ Hb1.out) ?_
    rintro e w2 ⟨bb, rfl, hb2, hib⟩
    have Hb2 : Hid (Below w.heap.size w w2) := Hb1.out.trans (hb2.mono Hb1.out.size)
    have HB2 : Hid (Box w2 w.heap.size #[.slice A p.length cap]) := HB.out.below hb2
    have Hib : Hid (bb = true ↔ SnRight p b) := hib
    clear hb2 hib HSb c0 cz HB
    cases bb with
    | false =>
      have HF : Hid (AddIs p a b []) := .inr ⟨fun h => by simpa using Hib.out.2 h.2, rfl⟩
      go_wp2_with fail
      go_ret
      exact ⟨.slice none 0 0, [], rfl, World.ownsRow_nil _ _ _ _, HF.out, by simp, Hb2.out⟩
    | true =>
      have HRb : Hid (SnRight p b) := Hib.out.1 rfl
      have c0 := HB2.out.at0
      have cz := HB2.out.1
      clear Hib
      have HNone : Hid (Calls Tryz.prog 51 #[.agg #[.slice A p.length cap]] w2 fun e w' => NoneTold p w2 w' e) := implNone (.slice A p.length cap) p w2 (Hr.out.below Hb2.out) hbk
      go_wp2_with fail
      refine Calls.mono (R := fun e w' => NoneTold p w2 w' e) HNone.out ?_
      rintro e w3 ⟨g, rfl, hg, hM, hb3⟩
      have Hg : Hid (w2.heap.size ≤ g) := hg
      have Hb3 : Hid (Below w2.heap.size w2 w3) := hb3
      have hz : plT (jzP p p.length) = fun _ => (0, 0) := by funext x; exact jz_zero p x.1 x.2
      have hbd0 : Bnd (plT (jzP p p.length)) := by rw [hz]; intro k; simp only; omega
      have HA1 : Hid (Calls Tryz.prog 52 #[.map (some g), .slice A1 a.length a1] w3 fun e w' => TalTold g (addAllL (jzP p p.length) a) w2.heap.size w3 w' e) := implAddAll w2.heap.size g _ _ a w3 hM hg hb3.size hbd0 HRa.out.cnt (fun W h => Ha.out.below (Hb2.out.trans ((hb3.trans h).mono Hb2.out.size))) (by have := HRa.out.1; omega)
      have HA2 : Hid (∀ w4, TalTold g (addAllL (jzP p p.length) a) w2.heap.size w3 w4 (.returned (.tuple #[])) → Calls Tryz.prog 52 #[.map (some g), .slice B1 b.length b1] w4 fun e w' => TalTold g (addAllL (addAllL (jzP p p.length) a) b) w2.heap.size w4 w' e) := fun w4 h => implAddAll w2.heap.size g _ _ b w4 h.2.1 hg (Nat.le_trans hb3.size h.2.2.size) (bnd_addAll hbd0 HRa.out.cnt) HRb.out.cnt (fun W h2 => Hb.out.below (Hb2.out.trans ((hb3.trans (h.2.2.trans h2)).mono Hb2.out.size))) (by have := HRb.out.1; omega)
      have HL : Hid ((addAllL (addAllL (jzP p p.length) a) b).length ≤ 1000000) := by
        have h1 := addAllL_length (addAllL (jzP p p.length) a) b
        have h2 := addAllL_length (jzP p p.length) a
        have h3 := jzP_length HRa.out.2.1 p.length (Nat.le_refl _)
        have h4 : p.length ≤ 6 := HRa.out.2.1.all.2.1
        have h5 := HRa.out.1
        have h6 := HRb.out.1
        show _ ≤ _
        omega
      have HT : Hid (plT (addAllL (addAllL (jzP p p.length) a) b) = addAllT (addAllT (fun _ => (0, 0)) a) b) := by show _ = _; rw [plT_addAll, plT_addAll, hz]
      clear hg hM hb3 hz hbd0 HNone c0 cz
      go_wp2_with fail
      refine Calls.mono (R := fun e w' => TalTold g (addAllL (jzP p p.length) a) w2.heap.size w3 w' e) HA1.out ?_
      rintro e w4 ⟨rfl, hM4, hb4⟩
      have HA3 : Hid (Calls Tryz.prog 52 #[.map (some g), .slice B1 b.length b1] w4 fun e w' => TalTold g (addAllL (addAllL (jzP p p.length) a) b) w2.heap.size w4 w' e) := HA2.out w4 ⟨rfl, hM4, hb4⟩
      have Hb4 : Hid (Below w2.heap.size w2 w4) := Hb3.out.trans hb4
      clear hM4 hb4 HA1 HA2
      go_wp2_with fail
      refine Calls.mono (R := fun e w' => TalTold g (addAllL (addAllL (jzP p p.length) a) b) w2.heap.size w4 w' e) HA3.out ?_
      rintro e w5 ⟨rfl, hM5, hb5⟩
      have Hb5 : Hid (Below w2.heap.size w2 w5) := Hb4.out.trans hb5
      have HP : Hid (Calls Tryz.prog 53 #[.map (some g)] w5 fun e w' => ProfTold (addAllL (addAllL (jzP p p.length) a) b) w2.heap.size w5 w' e) := implProfile w2.heap.size g _ w5 hM5 Hg.out Hb5.out.size (by have := HL.out; omega)
      clear hM5 hb5 HA3
      go_wp2_with fail
      refine Calls.mono (R := fun e w' => ProfTold (addAllL (addAllL (jzP p p.length) a) b) w2.heap.size w5 w' e) HP.out ?_
      rintro e w6 ⟨v, l, rfl, hV, hT, hlen, hb6⟩
      obtain ⟨Av, cv, rfl⟩ := hV.form
      have HE : Hid (AddTold p a b w w6 (.returned (.slice Av l.length cv))) := by
        rw [HT.out] at hT
        exact ⟨_, l, rfl, hV.lower (Nat.le_trans Hb2.out.size Hb5.out.size), .inl ⟨⟨HRa.out, HRb.out⟩, hT⟩, Nat.le_trans hlen HL.out, Hb2.out.trans ((Hb5.out.trans hb6).mono Hb2.out.size)⟩
      clear hV hT hlen hb6 HP
      go_wp2_with fail
      go_ret
      exact HE.out
end Go.Proofs.YtclcnillnfkjoaaGreatDoor
