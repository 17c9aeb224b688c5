/- spec.l10Ins. -/
import Derived.Test.YtijgonjnmibifaaGreatDoorValS
import Derived.Test.YtijgonjnmibifaaGreatDoorRightW
import Derived.Test.YtijgonjnmibifaaGreatDoorInsAW
import Derived.Deep.CutBlock
import Derived.Deep.DeepCutAuto
import Derived.Deep.RegionHeld3
namespace Go.Proofs.YtijgonjnmibifaaGreatDoor
open Go.RowKit

/-- what is known where the switch begins -/
structure InsAt (p : List FnM) (f : Nat) (op tg t : Int) (n : Nat) (A : Option Addr) (cap P Q : Nat) (w W : World) : Prop where
  hf : f < p.length
  hn : n ≤ 9223372036854775807
  q0 : W.cell? ⟨P, 0, none⟩ = some (.slice A p.length cap)
  d1 : W.cell? ⟨Q, 1, none⟩ = some (.int .i64 op)
  d2 : W.cell? ⟨Q, 2, none⟩ = some (.int .i64 tg)
  d4 : W.cell? ⟨Q, 4, none⟩ = some (.int .i64 t)
  zp : P < W.heap.size
  zq : Q < W.heap.size
  row : FnRow 0 W (.slice A p.length cap) p
  bel : Below w.heap.size w W

theorem InsAt.below {p : List FnM} {f : Nat} {op tg t : Int} {n : Nat} {A : Option Addr} {cap P Q : Nat} {w W W' : World} (h : InsAt p f op tg t n A cap P Q w W) (hb : Below W.heap.size W W') : InsAt p f op tg t n A cap P Q w W' :=
  ⟨h.hf, h.hn, by rw [hb.cell (by exact h.zp)]; exact h.q0, by rw [hb.cell (by exact h.zq)]; exact h.d1, by rw [hb.cell (by exact h.zq)]; exact h.d2, by rw [hb.cell (by exact h.zq)]; exact h.d4, Nat.lt_of_lt_of_le h.zp hb.size, Nat.lt_of_lt_of_le h.zq hb.size, h.row.below hb, h.bel.trans (hb.mono h.bel.size)⟩

set_option maxRecDepth 100000 in
set_option maxHeartbeats 25600000 in
theorem specAi (v x y : Value) (p : List FnM) (f : Nat) (i : AiM) (w : World) (hr : FnRow 0 w v p) (hx : MvRow 0 w x i.pre) (hy : InsRow 0 w y i.l) (hf : f < p.length) :
    Calls Tryz.prog 51 #[.agg #[v], .int .i64 (f : Int), aiV x y i] w fun e w' => e = .returned (.bool (aiS p f i)) ∧ Below w.heap.size w w' := by
  have Hr : Hid (FnRow 0 w v p) := hr
  have Hx : Hid (MvRow 0 w x i.pre) := hx
  have Hy : Hid (InsRow 0 w y i.l) := hy
  have hlp := hx.len
  have hll := hy.len
  obtain ⟨A, cap, rfl⟩ := hr.form
  obtain ⟨A1, c1, rfl⟩ := hx.form
  obtain ⟨A2, c2, rfl⟩ := hy.form
  clear hr hx hy
  unfold aiV
  obtain ⟨pre, op, tg, l, t⟩ := i
  dsimp only at Hx Hy hlp hll ⊢
  obtain ⟨x0, x1, x2⟩ := boxes_new w #[.slice A p.length cap] #[.slice A1 pre.length c1, .int .i64 op, .int .i64 tg, .slice A2 l.length c2, .int .i64 t] 34 60
  have X0 : Hid (Box _ w.heap.size #[.slice A p.length cap]) := x0
  have X1 : Hid (Box _ (w.heap.size + 1) #[.slice A1 pre.length c1, .int .i64 op, .int .i64 tg, .slice A2 l.length c2, .int .i64 t]) := x1
  have X2 : Hid (Below w.heap.size w _) := x2
  clear x0 x1 x2
  by_cases h16 : pre.length ≤ 16
  case neg =>
    have e16 : decide ((16 : Int) < (pre.length : Int)) = true := by simp; omega
    have HT : Hid (aiS p f ⟨pre, op, tg, l, t⟩ = false) := by show _ = _; simp [aiS, h16]
    clear X0 X1
    go_enter Tryz.func51, Tryz.ntmps51
    go_wp2
    go_ret
    exact ⟨by rw [HT.out]; rfl, X2.out⟩
  have e16 : decide ((16 : Int) < (pre.length : Int)) = false := by simp; omega
  by_cases k16 : l.length ≤ 16
  case neg =>
    have f16 : decide ((16 : Int) < (l.length : Int)) = true := by simp; omega
    have HT : Hid (aiS p f ⟨pre, op, tg, l, t⟩ = false) := by show _ = _; simp [aiS, k16]
    clear X0 X1
    go_enter Tryz.func51, Tryz.ntmps51
    go_wp2
    go_ret
    exact ⟨by rw [HT.out]; rfl, X2.out⟩
  have f16 : decide ((16 : Int) < (l.length : Int)) = false := by simp; omega
  have HT : Hid (aiS p f ⟨pre, op, tg, l, t⟩ = (pre.all movOk && l.all numOk && fieldsS p f ⟨pre, op, tg, l, t⟩)) := by show _ = _; simp [aiS, h16, k16]
  go_enter Tryz.func51, Tryz.ntmps51
  go_wp2_with fail
  clear e16 f16
  go_loopg [7] (pre.length) (fun g ix wr => ∃ k : Nat, k ≤ pre.length ∧ ix = .int .i64 k ∧ pre.length ≤ k + g ∧ Box wr w.heap.size #[.slice A p.length cap] ∧ Box wr (w.heap.size + 1) #[.slice A1 pre.length c1, .int .i64 op, .int .i64 tg, .slice A2 l.length c2, .int .i64 t] ∧ Below w.heap.size w wr ∧ ∀ j (h : j < pre.length), j < k → movOk pre[j] = true)
  case atStart => exact ⟨0, Nat.zero_le _, rfl, by omega, X0.out, X1.out, X2.out, fun j _ h => by omega⟩
  case round =>
    obtain ⟨k, hk, rfl, hkg, hB0, hB1, hb, hall⟩ := hrel
    have HB0 : Hid (Box wr w.heap.size #[.slice A p.length cap]) := hB0
    have HB1 : Hid (Box wr (w.heap.size + 1) #[.slice A1 pre.length c1, .int .i64 op, .int .i64 tg, .slice A2 l.length c2, .int .i64 t]) := hB1
    have Hb : Hid (Below w.heap.size w wr) := hb
    have Hall : Hid (∀ j (h : j < pre.length), j < k → movOk pre[j] = true) := hall
    have q1 := hB1.at0
    have s1 := hB1.1
    clear hB0 hB1 hb hall
    by_cases hkl : k < pre.length
    · obtain ⟨b, off, rfl, hlt, c0, cc1, cc2⟩ := (Hx.out.below Hb.out).at k hkl
      have HNo : Hid (movOk pre[k] = false → aiS p f ⟨pre, op, tg, l, t⟩ = false) := fun h => by
        rw [HT.out, show pre.all movOk = false from by rw [Bool.eq_false_iff]; exact fun h' => by have := List.all_eq_true.1 h' _ (List.getElem_mem hkl); rw [h] at this; cases this]
        rfl
      obtain ⟨mm, Hmm⟩ : ∃ m, Hid (m = pre[k]) := ⟨pre[k], (rfl : pre[k] = pre[k])⟩
      rw [← Hmm.out] at c0 cc1 cc2 HNo
      have hmo : movOk mm = (locOk mm.to && numOk (mm.kind, mm.n)) := rfl
      go_wp2_with fail
      refine (specLoc mm.to _).mono ?_
      rintro e w1 ⟨rfl, h⟩
      subst w1
      by_cases h1 : locOk mm.to = true
      case neg =>
        rw [Bool.not_eq_true] at h1
        have HF := HNo.out (by rw [hmo, h1, Bool.false_and])
        have HFH : Hid (aiS p f ⟨pre, op, tg, l, t⟩ = false) := HF
        clear HF hmo
        rw [h1]
        go_wp2_with fail
        go_ret
        exact ⟨by rw [HFH.out]; rfl, Hb.out⟩
      rw [h1]
      rw [h1, Bool.true_and] at hmo
      have Hmo : Hid (movOk mm = numOk (mm.kind, mm.n)) := hmo
      clear hmo
      go_wp2_with fail
      refine (specSome mm.kind mm.n _).mono ?_
      rintro e w1 ⟨rfl, hb1⟩
      have Hb1 : Hid (Below w.heap.size w w1) := Hb.out.trans (hb1.mono Hb.out.size)
      have HC0 := HB0.out.below hb1
      have HC1 := HB1.out.below hb1
      have HD0 : Hid (Box w1 w.heap.size #[.slice (some ⟨b, off, none⟩) pre.length c1]) ∨ True := .inr trivial
      have HE0 : Hid (Box w1 w.heap.size #[.slice A p.length cap]) := HC0
      have HE1 : Hid (Box w1 (w.heap.size + 1) #[.slice (some ⟨b, off, none⟩) pre.length c1, .int .i64 op, .int .i64 tg, .slice A2 l.length c2, .int .i64 t]) := HC1
      clear hb1 HC0 HC1 HD0 q1 s1 c0 cc1 cc2 h1
      by_cases h2 : numOk (mm.kind, mm.n) = true
      case neg =>
        rw [Bool.not_eq_true] at h2
        have HFH : Hid (aiS p f ⟨pre, op, tg, l, t⟩ = false) := HNo.out (by rw [Hmo.out, h2])
        rw [h2]
        go_wp2_with fail
        go_ret
        exact ⟨by rw [HFH.out]; rfl, Hb1.out⟩
      rw [h2]
      have Hnx : Hid (∀ j (h : j < pre.length), j < k + 1 → movOk pre[j] = true) := fun j h hj => if e : j = k then (by subst e; rw [← Hmm.out, Hmo.out, h2]) else Hall.out j h (by omega)
      clear h2
      go_wp2_with fail
      go_roundg (gk - 1)
      case measure => omega
      case rel => exact ⟨k + 1, by omega, by go_num, by omega, HE0.out, HE1.out, Hb1.out, Hnx.out⟩
    · have HM : Hid (pre.all movOk = true) := by
        show pre.all movOk = true
        rw [List.all_eq_true]
        intro x hx
        obtain ⟨j, hj, rfl⟩ := List.mem_iff_getElem.1 hx
        exact Hall.out j hj (by omega)
      go_wp2_with fail
      clear q1 s1 Hall
      go_loopg [8] (l.length) (fun g ix wr => ∃ k : Nat, k ≤ l.length ∧ ix = .int .i64 k ∧ l.length ≤ k + g ∧ Box wr w.heap.size #[.slice A p.length cap] ∧ Box wr (w.heap.size + 1) #[.slice A1 pre.length c1, .int .i64 op, .int .i64 tg, .slice A2 l.length c2, .int .i64 t] ∧ Below w.heap.size w wr ∧ ∀ j (h : j < l.length), j < k → numOk l[j] = true)
      case atStart => exact ⟨0, Nat.zero_le _, rfl, by omega, HB0.out, HB1.out, Hb.out, fun j _ h => by omega⟩
      case round =>
        obtain ⟨k, hk, rfl, hkg, hB0, hB1, hb, hall⟩ := hrel
        have HB0 : Hid (Box wr w.heap.size #[.slice A p.length cap]) := hB0
        have HB1 : Hid (Box wr (w.heap.size + 1) #[.slice A1 pre.length c1, .int .i64 op, .int .i64 tg, .slice A2 l.length c2, .int .i64 t]) := hB1
        have Hb : Hid (Below w.heap.size w wr) := hb
        have Hall : Hid (∀ j (h : j < l.length), j < k → numOk l[j] = true) := hall
        have q1 : wr.cell? ⟨w.heap.size + 1, 3, none⟩ = some (.slice A2 l.length c2) := hB1.2 3
        have s1 := hB1.1
        clear hB0 hB1 hb hall
        by_cases hkl : k < l.length
        · obtain ⟨b, off, rfl, hlt, c0, cc1⟩ := (Hy.out.below Hb.out).at k hkl
          have HNo : Hid (numOk l[k] = false → aiS p f ⟨pre, op, tg, l, t⟩ = false) := fun h => by
            rw [HT.out, show l.all numOk = false from by rw [Bool.eq_false_iff]; exact fun h' => by have := List.all_eq_true.1 h' _ (List.getElem_mem hkl); rw [h] at this; cases this]
            rw [Bool.and_false, Bool.false_and]
          obtain ⟨mm, Hmm⟩ : ∃ m, Hid (m = l[k]) := ⟨l[k], (rfl : l[k] = l[k])⟩
          rw [← Hmm.out] at c0 cc1 HNo
          go_wp2_with fail
          refine (specSome mm.1 mm.2 _).mono ?_
          rintro e w1 ⟨rfl, hb1⟩
          have Hb1 : Hid (Below w.heap.size w w1) := Hb.out.trans (hb1.mono Hb.out.size)
          have HE0 : Hid (Box w1 w.heap.size #[.slice A p.length cap]) := HB0.out.below hb1
          have HE1 : Hid (Box w1 (w.heap.size + 1) #[.slice A1 pre.length c1, .int .i64 op, .int .i64 tg, .slice (some ⟨b, off, none⟩) l.length c2, .int .i64 t]) := HB1.out.below hb1
          clear hb1 q1 s1 c0 cc1
          by_cases h2 : numOk (mm.1, mm.2) = true
          case neg =>
            rw [Bool.not_eq_true] at h2
            have HFH : Hid (aiS p f ⟨pre, op, tg, l, t⟩ = false) := HNo.out h2
            rw [h2]
            go_wp2_with fail
            go_ret
            exact ⟨by rw [HFH.out]; rfl, Hb1.out⟩
          rw [h2]
          have Hnx : Hid (∀ j (h : j < l.length), j < k + 1 → numOk l[j] = true) := fun j h hj => if e : j = k then (by subst e; rw [← Hmm.out]; exact h2) else Hall.out j h (by omega)
          clear h2
          go_wp2_with fail
          go_roundg (gk - 1)
          case measure => omega
          case rel => exact ⟨k + 1, by omega, by go_num, by omega, HE0.out, HE1.out, Hb1.out, Hnx.out⟩
        · have HN : Hid (l.all numOk = true) := by
            show l.all numOk = true
            rw [List.all_eq_true]
            intro x hx
            obtain ⟨j, hj, rfl⟩ := List.mem_iff_getElem.1 hx
            exact Hall.out j hj (by omega)
          have HU : Hid (aiS p f ⟨pre, op, tg, l, t⟩ = fieldsS p f ⟨pre, op, tg, l, t⟩) := by show _ = _; rw [HT.out, HM.out, HN.out]; rfl
          have HI : Hid (InsAt p f op tg t l.length A cap w.heap.size (w.heap.size + 1) w wr) := ⟨hf, hll, HB0.out.at0, HB1.out.2 1, HB1.out.2 2, HB1.out.2 4, HB0.out.1, HB1.out.1, Hr.out.below Hb.out, Hb.out⟩
          go_upto_region 14 with fail
          clear hk hkg hkl Hall HN HM HB0 HB1 HT q1 s1
          have q0 := HI.out.q0
          have d1 := HI.out.d1
          have d2 := HI.out.d2
          have d4 := HI.out.d4
          have zp := HI.out.zp
          have zq := HI.out.zq
          have hn := HI.out.hn
          by_cases n0 : op = 0
          · as_aux_lemma =>
              subst n0
              have HS : Hid (fieldsS p f ⟨pre, 0, tg, l, t⟩ = decide (tg = -1 ∧ l.length = 0 ∧ t = 0)) := by show fieldsS _ _ _ = _; simp [fieldsS]
              by_cases h1 : tg = -1
              · subst h1
                by_cases h2 : l.length = 0
                · have e2 : ((l.length : Int) == 0) = true := by simpa using h2
                  go_wp2
                  go_ret
                  exact ⟨by rw [HU.out, HS.out]; simp [h2]; try rfl, HI.out.bel⟩
                · have e2 : ((l.length : Int) == 0) = false := by simpa using (show ¬ (l.length : Int) = 0 by omega)
                  go_wp2
                  go_ret
                  exact ⟨by rw [HU.out, HS.out]; simp [h2]; try rfl, HI.out.bel⟩
              · have e1 : (tg == -1) = false := by simpa using h1
                go_wp2
                go_ret
                exact ⟨by rw [HU.out, HS.out]; simp [h1]; try rfl, HI.out.bel⟩
          have e0 : (op == 0) = false := by simpa using n0
          by_cases n1 : op = 1
          · as_aux_lemma =>
              subst n1
              have HS : Hid (fieldsS p f ⟨pre, 1, tg, l, t⟩ = (locOk tg && decide (l.length = 1 ∧ t = 0))) := by show fieldsS _ _ _ = _; simp [fieldsS]
              clear n0
              go_wp2_with fail
              refine (specLoc tg _).mono ?_
              rintro e w1 ⟨rfl, h⟩
              subst w1
              by_cases h2 : locOk tg = true
              · rw [h2]
                by_cases h3 : l.length = 1
                · have e3 : ((l.length : Int) == 1) = true := by simp; omega
                  go_wp2
                  go_ret
                  exact ⟨by rw [HU.out, HS.out]; simp [h2, h3]; try rfl, HI.out.bel⟩
                · have e3 : ((l.length : Int) == 1) = false := by simpa using (show ¬ (l.length : Int) = 1 by omega)
                  go_wp2
                  go_ret
                  exact ⟨by rw [HU.out, HS.out]; simp [h3]; try rfl, HI.out.bel⟩
              · rw [Bool.not_eq_true] at h2
                rw [h2]
                go_wp2
                go_ret
                exact ⟨by rw [HU.out, HS.out]; simp [h2]; try rfl, HI.out.bel⟩
          have e1 : (op == 1) = false := by simpa using n1
          by_cases n3 : op = 3
          · as_aux_lemma =>
              subst n3
              have HS : Hid (fieldsS p f ⟨pre, 3, tg, l, t⟩ = decide (tg = -1 ∧ l.length = 1 ∧ (t = 1 ∨ t = 2))) := by show fieldsS _ _ _ = _; simp [fieldsS]
              clear n0 n1
              by_cases h1 : tg = -1
              · subst h1
                by_cases h2 : l.length = 1
                · have e2 : ((l.length : Int) == 1) = true := by simp; omega
                  by_cases h4 : t = 1
                  · subst h4
                    go_wp2
                    go_ret
                    exact ⟨by rw [HU.out, HS.out]; simp [h2]; try rfl, HI.out.bel⟩
                  · have e4 : (t == 1) = false := by simpa using h4
                    go_wp2
                    go_ret
                    exact ⟨by rw [HU.out, HS.out]; simp [h2, h4]; try rfl, HI.out.bel⟩
                · have e2 : ((l.length : Int) == 1) = false := by simpa using (show ¬ (l.length : Int) = 1 by omega)
                  go_wp2
                  go_ret
                  exact ⟨by rw [HU.out, HS.out]; simp [h2]; try rfl, HI.out.bel⟩
              · have e1 : (tg == -1) = false := by simpa using h1
                go_wp2
                go_ret
                exact ⟨by rw [HU.out, HS.out]; simp [h1]; try rfl, HI.out.bel⟩
          have e3 : (op == 3) = false := by simpa using n3
          by_cases hk : (isBin op = true ∨ isUn op = true ∨ op = 34 ∨ op = 35 ∨ op = 37)
          · as_aux_lemma =>
              have HS : Hid (fieldsS p f ⟨pre, op, tg, l, t⟩ = ((decide (tg = -1) || locOk tg) && decide ((l.length : Int) = takesM p op 0 ∧ t = 0))) := by show fieldsS _ _ _ = _; simp only [fieldsS]; rw [if_neg n0, if_neg n1, if_neg n3, if_pos hk]
              go_upto_region 20 with fail
              go_cut [115] (fun q wc => q = .bool true ∧ wc = wr)
              case first =>
                go_wp2_with fail
                refine (specBin op _).mono ?_
                rintro e w1 ⟨rfl, h⟩
                subst w1
                by_cases hB : isBin op = true
                · rw [hB]
                  go_wp2_with fail
                  go_meet
                  exact ⟨rfl, rfl⟩
                rw [Bool.not_eq_true] at hB
                rw [hB]
                go_wp2_with fail
                refine (specUn op _).mono ?_
                rintro e w1 ⟨rfl, h⟩
                subst w1
                by_cases hU : isUn op = true
                · rw [hU]
                  go_wp2_with fail
                  go_meet
                  exact ⟨rfl, rfl⟩
                rw [Bool.not_eq_true] at hU
                rw [hU]
                have h3 : op = 34 ∨ op = 35 ∨ op = 37 := by
                  rcases hk with h | h | h
                  · rw [hB] at h; cases h
                  · rw [hU] at h; cases h
                  · exact h
                clear hk hB hU e0 e1 e3 n0 n1 n3
                rcases h3 with rfl | rfl | rfl
                all_goals
                  go_wp2_with fail
                  go_meet
                  exact ⟨rfl, rfl⟩
              case rest =>
                obtain ⟨rfl, hwc⟩ := hcut
                have hwd := hwc.symm
                subst hwd
                clear hk e0 e1 e3 n0 n1 n3
                by_cases h1 : tg = -1
                · subst h1
                  go_wp2_with fail
                  refine (specTakes _ p op 0 _ HI.out.row).mono ?_
                  rintro e w1 ⟨rfl, hb1⟩
                  have J : Hid (InsAt p f op (-1) t l.length A cap w.heap.size (w.heap.size + 1) w w1) := HI.out.below hb1
                  clear hb1 q0 d1 d2 d4 zp zq
                  have d4 := J.out.d4
                  have zq := J.out.zq
                  by_cases h5 : (l.length : Int) = takesM p op 0
                  · have e5 : ((l.length : Int) == takesM p op 0) = true := by simpa using h5
                    go_wp2_with fail
                    go_ret
                    exact ⟨by rw [HU.out, HS.out]; simp [h5]; try rfl, J.out.bel⟩
                  · have e5 : ((l.length : Int) == takesM p op 0) = false := by simpa using h5
                    go_wp2_with fail
                    go_ret
                    exact ⟨by rw [HU.out, HS.out]; simp [h5]; try rfl, J.out.bel⟩
                have e1 : (tg == -1) = false := by simpa using h1
                go_wp2_with fail
                refine (specLoc tg _).mono ?_
                rintro e w1 ⟨rfl, h⟩
                subst w1
                by_cases h2 : locOk tg = true
                · rw [h2]
                  go_wp2_with fail
                  refine (specTakes _ p op 0 _ HI.out.row).mono ?_
                  rintro e w1 ⟨rfl, hb1⟩
                  have J : Hid (InsAt p f op tg t l.length A cap w.heap.size (w.heap.size + 1) w w1) := HI.out.below hb1
                  clear hb1 q0 d1 d2 d4 zp zq
                  have d4 := J.out.d4
                  have zq := J.out.zq
                  by_cases h5 : (l.length : Int) = takesM p op 0
                  · have e5 : ((l.length : Int) == takesM p op 0) = true := by simpa using h5
                    go_wp2_with fail
                    go_ret
                    exact ⟨by rw [HU.out, HS.out]; simp [h2, h5]; try rfl, J.out.bel⟩
                  · have e5 : ((l.length : Int) == takesM p op 0) = false := by simpa using h5
                    go_wp2_with fail
                    go_ret
                    exact ⟨by rw [HU.out, HS.out]; simp [h2, h5]; try rfl, J.out.bel⟩
                · rw [Bool.not_eq_true] at h2
                  rw [h2]
                  go_wp2
                  go_ret
                  exact ⟨by rw [HU.out, HS.out]; simp [h1, h2]; try rfl, HI.out.bel⟩
          go_upto_region 20 with fail
          go_cut [115] (fun q wc => q = .bool false ∧ wc = wr)
          case first =>
            have f1 : isBin op = false := by rw [Bool.eq_false_iff]; exact fun h => hk (.inl h)
            have f2 : isUn op = false := by rw [Bool.eq_false_iff]; exact fun h => hk (.inr (.inl h))
            have f3 : (op == 34) = false := by simpa using fun h => hk (.inr (.inr (.inl h)))
            have f4 : (op == 35) = false := by simpa using fun h => hk (.inr (.inr (.inr (.inl h))))
            have f5 : (op == 37) = false := by simpa using fun h => hk (.inr (.inr (.inr (.inr h))))
            go_wp2_with fail
            refine (specBin op _).mono ?_
            rintro e w1 ⟨rfl, h⟩
            subst w1
            rw [f1]
            go_wp2_with fail
            refine (specUn op _).mono ?_
            rintro e w1 ⟨rfl, h⟩
            subst w1
            rw [f2]
            go_wp2_with fail
            go_meet
            exact ⟨rfl, rfl⟩
          obtain ⟨rfl, hwc⟩ := hcut
          have hwd := hwc.symm
          subst hwd
          by_cases h2 : op = 36 ∨ op = 38 ∨ op = 33
          · as_aux_lemma =>
              have HS : Hid (fieldsS p f ⟨pre, op, tg, l, t⟩ = decide (tg = -1 ∧ (l.length : Int) = takesM p op 0 ∧ t = 0)) := by show fieldsS _ _ _ = _; simp only [fieldsS]; rw [if_neg n0, if_neg n1, if_neg n3, if_neg hk, if_pos h2]
              clear hk n0 n1 n3
              go_upto_region 22 with fail
              go_cut [161] (fun q wc => q = .bool true ∧ wc = wr)
              case first =>
                clear e0 e1 e3
                rcases h2 with rfl | rfl | rfl
                all_goals
                  go_wp2_with fail
                  go_meet
                  exact ⟨rfl, rfl⟩
              case rest =>
                obtain ⟨rfl, hwc⟩ := hcut
                have hwd := hwc.symm
                subst hwd
                clear h2 e0 e1 e3
                by_cases h1 : tg = -1
                case neg =>
                  as_aux_lemma =>
                    have e1 : (tg == -1) = false := by simpa using h1
                    go_wp2
                    go_ret
                    exact ⟨by rw [HU.out, HS.out]; simp [h1]; try rfl, HI.out.bel⟩
                subst h1
                go_wp2_with fail
                refine (specTakes _ p op 0 _ HI.out.row).mono ?_
                rintro e w1 ⟨rfl, hb1⟩
                have J : Hid (InsAt p f op (-1) t l.length A cap w.heap.size (w.heap.size + 1) w w1) := HI.out.below hb1
                clear hb1 q0 d1 d2 d4 zp zq
                have d4 := J.out.d4
                have zq := J.out.zq
                by_cases h5 : (l.length : Int) = takesM p op 0
                · have e5 : ((l.length : Int) == takesM p op 0) = true := by simpa using h5
                  go_wp2_with fail
                  go_ret
                  exact ⟨by rw [HU.out, HS.out]; simp [h5]; try rfl, J.out.bel⟩
                · have e5 : ((l.length : Int) == takesM p op 0) = false := by simpa using h5
                  go_wp2_with fail
                  go_ret
                  exact ⟨by rw [HU.out, HS.out]; simp [h5]; try rfl, J.out.bel⟩
          have g1 : (op == 36) = false := by simpa using fun h => h2 (.inl h)
          have g2 : (op == 38) = false := by simpa using fun h => h2 (.inr (.inl h))
          have g3 : (op == 33) = false := by simpa using fun h => h2 (.inr (.inr h))
          go_upto_region 24 with fail
          by_cases h3 : op = 30 ∨ op = 31
          · as_aux_lemma =>
              have HS : Hid (fieldsS p f ⟨pre, op, tg, l, t⟩ = (decide (tg = -1 ∧ (l.length : Int) = takesM p op 0) && inL t (fnAt p f).code.length)) := by show fieldsS _ _ _ = _; simp only [fieldsS]; rw [if_neg n0, if_neg n1, if_neg n3, if_neg hk, if_neg h2, if_pos h3]
              clear hk n0 n1 n3 h2 g1 g2 g3
              go_cut [192] (fun q wc => q = .bool true ∧ wc = wr)
              case first =>
                clear e0 e1 e3
                rcases h3 with rfl | rfl
                all_goals
                  go_wp2_with fail
                  go_meet
                  exact ⟨rfl, rfl⟩
              obtain ⟨rfl, hwc⟩ := hcut
              have hwd := hwc.symm
              subst hwd
              clear h3 e0 e1 e3
              obtain ⟨bf, offf, xf, rfl, hltf, -, -, kf2, hxf⟩ := HI.out.row.at f hf
              have hxl := hxf.len
              obtain ⟨Ac, capc, rfl⟩ := hxf.form
              obtain ⟨cl, hcl⟩ : ∃ cl, cl = p[f].code := ⟨_, rfl⟩
              have HC : Hid ((fnAt p f).code.length = cl.length) := by show _ = _; rw [fnAt_nat p f hf, hcl]
              rw [← hcl] at kf2 hxl
              clear hxf hcl
              have HSx : Hid (∀ w', Below wr.heap.size wr w' → w'.cell? ⟨w.heap.size, 0, none⟩ = some (.slice (some ⟨bf, offf, none⟩) p.length cap) ∧ w'.cell? ⟨w.heap.size + 1, 1, none⟩ = some (.int .i64 op) ∧ w'.cell? ⟨w.heap.size + 1, 2, none⟩ = some (.int .i64 tg) ∧ w'.cell? ⟨w.heap.size + 1, 4, none⟩ = some (.int .i64 t) ∧ w'.cell? ⟨bf, offf + f * 3 + 2, none⟩ = some (.slice Ac cl.length capc)) := fun w' h => by
                have J := HI.out.below h
                exact ⟨J.q0, J.d1, J.d2, J.d4, by rw [h.cell (by exact hltf)]; exact kf2⟩
              have hb0 : Below wr.heap.size wr wr.drew := (Below.refl _ _).drew
              have hf0 : (0 : Int) ≤ (f : Int) := by omega
              have hfl : (f : Int) < (p.length : Int) := by omega
              have HK : Hid (∀ w', Below wr.heap.size wr w' → Calls Tryz.prog 83 #[.agg #[.slice (some ⟨bf, offf, none⟩) p.length cap], .agg #[.int .i64 op, .int .i64 0]] w' fun e w'' => e = .returned (.int .i64 (takesM p op 0)) ∧ Below w'.heap.size w' w'') := fun w' h => specTakes _ p op 0 w' (HI.out.below h).row
              go_upto_region 25 with fail
              clear q0 d1 d2 d4 kf2
              by_cases h1 : tg = -1
              case neg =>
                as_aux_lemma =>
                  have e1 : (tg == -1) = false := by simpa using h1
                  refine wp_region_held_drew (S := fun w' => w'.cell? ⟨w.heap.size, 0, none⟩ = some (.slice (some ⟨bf, offf, none⟩) p.length cap) ∧ w'.cell? ⟨w.heap.size + 1, 1, none⟩ = some (.int .i64 op) ∧ w'.cell? ⟨w.heap.size + 1, 2, none⟩ = some (.int .i64 tg) ∧ w'.cell? ⟨w.heap.size + 1, 4, none⟩ = some (.int .i64 t) ∧ w'.cell? ⟨bf, offf + f * 3 + 2, none⟩ = some (.slice Ac cl.length capc)) (by kernel_rfl) (HSx.out _ hb0) (fun hHeld => ?_)
                  refine wpAnyH_take (i := 0) (v := ?vp1) rfl (by kernel_rfl) (by kernel_rfl) (by kernel_rfl) (fun _ _ _ h => h) (Or.inl ⟨by rfl, ?hp1⟩) (by assumption) ?rp1
                  case hp1 => (intro wS hSw; (try dsimp only at hSw); go_simp; try with_reducible rfl)
                  case rp1 =>
                    try simp only [Act.put, List.setIfInBounds_toArray, List.set_cons_zero, List.set_cons_succ, List.getElem_toArray, List.getElem_cons_zero]
                    refine wpAnyH_take (i := 1) (v := ?vp2) rfl (by kernel_rfl) (by kernel_rfl) (by kernel_rfl) (fun _ _ _ h => h) (Or.inl ⟨by rfl, ?hp2⟩) (by assumption) ?rp2
                    case hp2 => (intro wS hSw; (try dsimp only at hSw); go_simp; try with_reducible rfl)
                    case rp2 =>
                      try simp only [Act.put, List.setIfInBounds_toArray, List.set_cons_zero, List.set_cons_succ, List.getElem_toArray, List.getElem_cons_succ, List.getElem_cons_zero]
                      refine wpAnyH_take (i := 2) (v := ?vp3) rfl (by kernel_rfl) (by kernel_rfl) (by kernel_rfl) (fun _ _ _ h => h) (Or.inl ⟨by rfl, ?hp3⟩) (by assumption) ?rp3
                      case hp3 => (intro wS hSw; (try dsimp only at hSw); go_simp; try with_reducible rfl)
                      case rp3 =>
                        try simp only [Act.put, List.setIfInBounds_toArray, List.set_cons_zero, List.set_cons_succ, List.getElem_toArray, List.getElem_cons_succ, List.getElem_cons_zero]
                        refine wpAnyH_take (i := 3) (v := ?vp4) rfl (by kernel_rfl) (by kernel_rfl) (by kernel_rfl) (fun _ _ _ h => h) (Or.inl ⟨by rfl, ?hp4⟩) (by assumption) ?rp4
                        case hp4 => (intro wS hSw; (try dsimp only at hSw); go_simp; try with_reducible rfl)
                        case rp4 =>
                          try simp only [Act.put, List.setIfInBounds_toArray, List.set_cons_zero, List.set_cons_succ, List.getElem_toArray, List.getElem_cons_succ, List.getElem_cons_zero]
                          refine wpAnyH_take (i := 4) (v := undef) rfl (by kernel_rfl) (by kernel_rfl) (by kernel_rfl) (fun _ _ _ h => h) (Or.inr ⟨by rfl, rfl⟩) (by assumption) ?rp5
                          case rp5 =>
                            try simp only [Act.put, List.setIfInBounds_toArray, List.set_cons_zero, List.set_cons_succ, List.getElem_toArray, List.getElem_cons_succ, List.getElem_cons_zero]
                            refine wpAnyH_take (i := 5) (v := undef) rfl (by kernel_rfl) (by kernel_rfl) (by kernel_rfl) (fun _ _ _ h => h) (Or.inr ⟨by rfl, rfl⟩) (by assumption) ?rp6
                            case rp6 =>
                              try simp only [Act.put, List.setIfInBounds_toArray, List.set_cons_zero, List.set_cons_succ, List.getElem_toArray, List.getElem_cons_succ, List.getElem_cons_zero]
                              refine wpAnyH_take (i := 6) (v := undef) rfl (by kernel_rfl) (by kernel_rfl) (by kernel_rfl) (fun _ _ _ h => h) (Or.inr ⟨by rfl, rfl⟩) (by assumption) ?rp7
                              case rp7 =>
                                try simp only [Act.put, List.setIfInBounds_toArray, List.set_cons_zero, List.set_cons_succ, List.getElem_toArray, List.getElem_cons_succ, List.getElem_cons_zero]
                                refine wpAnyH_take (i := 7) (v := undef) rfl (by kernel_rfl) (by kernel_rfl) (by kernel_rfl) (fun _ _ _ h => h) (Or.inr ⟨by rfl, rfl⟩) (by assumption) ?rp8
                                case rp8 =>
                                  try simp only [Act.put, List.setIfInBounds_toArray, List.set_cons_zero, List.set_cons_succ, List.getElem_toArray, List.getElem_cons_succ, List.getElem_cons_zero]
                                  refine wpAnyH_take (i := 8) (v := undef) rfl (by kernel_rfl) (by kernel_rfl) (by kernel_rfl) (fun _ _ _ h => h) (Or.inr ⟨by rfl, rfl⟩) (by assumption) ?rp9
                                  case rp9 =>
                                    try simp only [Act.put, List.setIfInBounds_toArray, List.set_cons_zero, List.set_cons_succ, List.getElem_toArray, List.getElem_cons_succ, List.getElem_cons_zero]
                                    refine wpAnyH_take (i := 9) (v := undef) rfl (by kernel_rfl) (by kernel_rfl) (by kernel_rfl) (fun _ _ _ h => h) (Or.inr ⟨by rfl, rfl⟩) (by assumption) ?rp10
                                    case rp10 =>
                                      try simp only [Act.put, List.setIfInBounds_toArray, List.set_cons_zero, List.set_cons_succ, List.getElem_toArray, List.getElem_cons_succ, List.getElem_cons_zero]
                                      refine wpAnyH_take (i := 10) (v := undef) rfl (by kernel_rfl) (by kernel_rfl) (by kernel_rfl) (fun _ _ _ h => h) (Or.inr ⟨by rfl, rfl⟩) (by assumption) ?rp11
                                      case rp11 =>
                                        try simp only [Act.put, List.setIfInBounds_toArray, List.set_cons_zero, List.set_cons_succ, List.getElem_toArray, List.getElem_cons_succ, List.getElem_cons_zero]
                                        refine wpAnyH_take (i := 11) (v := ?vp12) rfl (by kernel_rfl) (by kernel_rfl) (by kernel_rfl) (fun _ _ _ h => h) (Or.inl ⟨by rfl, ?hp12⟩) (by assumption) ?rp12
                                        case hp12 => (intro wS hSw; (try dsimp only at hSw); go_simp; try with_reducible rfl)
                                        case rp12 =>
                                          try simp only [Act.put, List.setIfInBounds_toArray, List.set_cons_zero, List.set_cons_succ, List.getElem_toArray, List.getElem_cons_succ, List.getElem_cons_zero]
                                          refine wpAnyH_take (i := 12) (v := ?vp13) rfl (by kernel_rfl) (by kernel_rfl) (by kernel_rfl) (fun _ _ _ h => h) (Or.inl ⟨by rfl, ?hp13⟩) (by assumption) ?rp13
                                          case hp13 => (intro wS hSw; (try dsimp only at hSw); go_simp; try with_reducible rfl)
                                          case rp13 =>
                                            try simp only [Act.put, List.setIfInBounds_toArray, List.set_cons_zero, List.set_cons_succ, List.getElem_toArray, List.getElem_cons_succ, List.getElem_cons_zero]
                                            refine wpAnyH_take (i := 13) (v := undef) rfl (by kernel_rfl) (by kernel_rfl) (by kernel_rfl) (fun _ _ _ h => h) (Or.inr ⟨by rfl, rfl⟩) (by assumption) ?rp14
                                            case rp14 =>
                                              try simp only [Act.put, List.setIfInBounds_toArray, List.set_cons_zero, List.set_cons_succ, List.getElem_toArray, List.getElem_cons_succ, List.getElem_cons_zero]
                                              refine wpAnyH_take (i := 14) (v := undef) rfl (by kernel_rfl) (by kernel_rfl) (by kernel_rfl) (fun _ _ _ h => h) (Or.inr ⟨by rfl, rfl⟩) (by assumption) ?rp15
                                              case rp15 =>
                                                try simp only [Act.put, List.setIfInBounds_toArray, List.set_cons_zero, List.set_cons_succ, List.getElem_toArray, List.getElem_cons_succ, List.getElem_cons_zero]
                                                refine wpAnyH_take (i := 15) (v := undef) rfl (by kernel_rfl) (by kernel_rfl) (by kernel_rfl) (fun _ _ _ h => h) (Or.inr ⟨by rfl, rfl⟩) (by assumption) ?rp16
                                                case rp16 =>
                                                  try simp only [Act.put, List.setIfInBounds_toArray, List.set_cons_zero, List.set_cons_succ, List.getElem_toArray, List.getElem_cons_succ, List.getElem_cons_zero]
                                                  refine wpAnyH_take (i := 16) (v := ?vp17) rfl (by kernel_rfl) (by kernel_rfl) (by kernel_rfl) (fun _ _ _ h => h) (Or.inl ⟨by rfl, ?hp17⟩) (by assumption) ?rp17
                                                  case hp17 => (intro wS hSw; (try dsimp only at hSw); go_simp; try with_reducible rfl)
                                                  case rp17 =>
                                                    try simp only [Act.put, List.setIfInBounds_toArray, List.set_cons_zero, List.set_cons_succ, List.getElem_toArray, List.getElem_cons_succ, List.getElem_cons_zero]
                                                    refine wpAnyH_take (i := 17) (v := ?vp18) rfl (by kernel_rfl) (by kernel_rfl) (by kernel_rfl) (fun _ _ _ h => h) (Or.inl ⟨by rfl, ?hp18⟩) (by assumption) ?rp18
                                                    case hp18 => (intro wS hSw; (try dsimp only at hSw); go_simp; try with_reducible rfl)
                                                    case rp18 =>
                                                      try simp only [Act.put, List.setIfInBounds_toArray, List.set_cons_zero, List.set_cons_succ, List.getElem_toArray, List.getElem_cons_succ, List.getElem_cons_zero]
                                                      refine wpAnyH_take (i := 18) (v := undef) rfl (by kernel_rfl) (by kernel_rfl) (by kernel_rfl) (fun _ _ _ h => h) (Or.inr ⟨by rfl, rfl⟩) (by assumption) ?rp19
                                                      case rp19 =>
                                                        try simp only [Act.put, List.setIfInBounds_toArray, List.set_cons_zero, List.set_cons_succ, List.getElem_toArray, List.getElem_cons_succ, List.getElem_cons_zero]
                                                        refine wpAnyH_take (i := 19) (v := undef) rfl (by kernel_rfl) (by kernel_rfl) (by kernel_rfl) (fun _ _ _ h => h) (Or.inr ⟨by rfl, rfl⟩) (by assumption) ?rp20
                                                        case rp20 =>
                                                          try simp only [Act.put, List.setIfInBounds_toArray, List.set_cons_zero, List.set_cons_succ, List.getElem_toArray, List.getElem_cons_succ, List.getElem_cons_zero]
                                                          refine wpAnyH_take (i := 20) (v := undef) rfl (by kernel_rfl) (by kernel_rfl) (by kernel_rfl) (fun _ _ _ h => h) (Or.inr ⟨by rfl, rfl⟩) (by assumption) ?rp21
                                                          case rp21 =>
                                                            try simp only [Act.put, List.setIfInBounds_toArray, List.set_cons_zero, List.set_cons_succ, List.getElem_toArray, List.getElem_cons_succ, List.getElem_cons_zero]
                                                            refine wpAnyH_take (i := 21) (v := undef) rfl (by kernel_rfl) (by kernel_rfl) (by kernel_rfl) (fun _ _ _ h => h) (Or.inr ⟨by rfl, rfl⟩) (by assumption) ?rp22
                                                            case rp22 =>
                                                              try simp only [Act.put, List.setIfInBounds_toArray, List.set_cons_zero, List.set_cons_succ, List.getElem_toArray, List.getElem_cons_succ, List.getElem_cons_zero]
                                                              refine wpAnyH_take (i := 22) (v := undef) rfl (by kernel_rfl) (by kernel_rfl) (by kernel_rfl) (fun _ _ _ h => h) (Or.inr ⟨by rfl, rfl⟩) (by assumption) ?rp23
                                                              case rp23 =>
                                                                try simp only [Act.put, List.setIfInBounds_toArray, List.set_cons_zero, List.set_cons_succ, List.getElem_toArray, List.getElem_cons_succ, List.getElem_cons_zero]
                                                                refine wpAnyH_take (i := 23) (v := undef) rfl (by kernel_rfl) (by kernel_rfl) (by kernel_rfl) (fun _ _ _ h => h) (Or.inr ⟨by rfl, rfl⟩) (by assumption) ?rp24
                                                                case rp24 =>
                                                                  try simp only [Act.put, List.setIfInBounds_toArray, List.set_cons_zero, List.set_cons_succ, List.getElem_toArray, List.getElem_cons_succ, List.getElem_cons_zero]
                                                                  refine wpAnyH_take (i := 24) (v := undef) rfl (by kernel_rfl) (by kernel_rfl) (by kernel_rfl) (fun _ _ _ h => h) (Or.inr ⟨by rfl, rfl⟩) (by assumption) ?rp25
                                                                  case rp25 =>
                                                                    try simp only [Act.put, List.setIfInBounds_toArray, List.set_cons_zero, List.set_cons_succ, List.getElem_toArray, List.getElem_cons_succ, List.getElem_cons_zero]
                                                                    refine wpAnyH_take (i := 25) (v := undef) rfl (by kernel_rfl) (by kernel_rfl) (by kernel_rfl) (fun _ _ _ h => h) (Or.inr ⟨by rfl, rfl⟩) (by assumption) ?rp26
                                                                    case rp26 =>
                                                                      try simp only [Act.put, List.setIfInBounds_toArray, List.set_cons_zero, List.set_cons_succ, List.getElem_toArray, List.getElem_cons_succ, List.getElem_cons_zero]
                                                                      refine wpAnyH_take (i := 26) (v := undef) rfl (by kernel_rfl) (by kernel_rfl) (by kernel_rfl) (fun _ _ _ h => h) (Or.inr ⟨by rfl, rfl⟩) (by assumption) ?rp27
                                                                      case rp27 =>
                                                                        try simp only [Act.put, List.setIfInBounds_toArray, List.set_cons_zero, List.set_cons_succ, List.getElem_toArray, List.getElem_cons_succ, List.getElem_cons_zero]
                                                                        refine wpAnyH_take (i := 27) (v := undef) rfl (by kernel_rfl) (by kernel_rfl) (by kernel_rfl) (fun _ _ _ h => h) (Or.inr ⟨by rfl, rfl⟩) (by assumption) ?rp28
                                                                        case rp28 =>
                                                                          try simp only [Act.put, List.setIfInBounds_toArray, List.set_cons_zero, List.set_cons_succ, List.getElem_toArray, List.getElem_cons_succ, List.getElem_cons_zero]
                                                                          refine wpAnyH_take (i := 28) (v := ?vp29) rfl (by kernel_rfl) (by kernel_rfl) (by kernel_rfl) (fun _ _ _ h => h) (Or.inl ⟨by rfl, ?hp29⟩) (by assumption) ?rp29
                                                                          case hp29 => (intro wS hSw; (try dsimp only at hSw); go_simp; try with_reducible rfl)
                                                                          case rp29 =>
                                                                            try simp only [Act.put, List.setIfInBounds_toArray, List.set_cons_zero, List.set_cons_succ, List.getElem_toArray, List.getElem_cons_succ, List.getElem_cons_zero]
                                                                            refine wpAnyH_take (i := 29) (v := ?vp30) rfl (by kernel_rfl) (by kernel_rfl) (by kernel_rfl) (fun _ _ _ h => h) (Or.inl ⟨by rfl, ?hp30⟩) (by assumption) ?rp30
                                                                            case hp30 => (intro wS hSw; (try dsimp only at hSw); go_simp; try with_reducible rfl)
                                                                            case rp30 =>
                                                                              try simp only [Act.put, List.setIfInBounds_toArray, List.set_cons_zero, List.set_cons_succ, List.getElem_toArray, List.getElem_cons_succ, List.getElem_cons_zero]
                                                                              refine wpAnyH_done (by kernel_rfl) ?_ _
                                                                              go_wp2_with fail
                                                                              go_ret
                                                                              exact ⟨by rw [HU.out, HS.out]; simp [h1]; try rfl, HI.out.bel.trans (hb0.mono HI.out.bel.size)⟩
              subst h1
              by_cases h5 : (l.length : Int) = takesM p op 0
              case neg =>
                as_aux_lemma =>
                  have e5 : ((l.length : Int) == takesM p op 0) = false := by simpa using h5
                  refine wp_region_held_drew (S := fun w' => w'.cell? ⟨w.heap.size, 0, none⟩ = some (.slice (some ⟨bf, offf, none⟩) p.length cap) ∧ w'.cell? ⟨w.heap.size + 1, 1, none⟩ = some (.int .i64 op) ∧ w'.cell? ⟨w.heap.size + 1, 2, none⟩ = some (.int .i64 (-1)) ∧ w'.cell? ⟨w.heap.size + 1, 4, none⟩ = some (.int .i64 t) ∧ w'.cell? ⟨bf, offf + f * 3 + 2, none⟩ = some (.slice Ac cl.length capc)) (by kernel_rfl) (HSx.out _ hb0) (fun hHeld => ?_)
                  refine wpAnyH_take (i := 0) (v := ?vq1) rfl (by kernel_rfl) (by kernel_rfl) (by kernel_rfl) (fun _ _ _ h => h) (Or.inl ⟨by rfl, ?hq1⟩) (by assumption) ?rq1
                  case hq1 => (intro wS hSw; (try dsimp only at hSw); go_simp; try with_reducible rfl)
                  case rq1 =>
                    try simp only [Act.put, List.setIfInBounds_toArray, List.set_cons_zero, List.set_cons_succ, List.getElem_toArray, List.getElem_cons_zero]
                    refine wpAnyH_take (i := 1) (v := ?vq2) rfl (by kernel_rfl) (by kernel_rfl) (by kernel_rfl) (fun _ _ _ h => h) (Or.inl ⟨by rfl, ?hq2⟩) (by assumption) ?rq2
                    case hq2 => (intro wS hSw; (try dsimp only at hSw); go_simp; try with_reducible rfl)
                    case rq2 =>
                      try simp only [Act.put, List.setIfInBounds_toArray, List.set_cons_zero, List.set_cons_succ, List.getElem_toArray, List.getElem_cons_succ, List.getElem_cons_zero]
                      refine wpAnyH_take (i := 2) (v := ?vq3) rfl (by kernel_rfl) (by kernel_rfl) (by kernel_rfl) (fun _ _ _ h => h) (Or.inl ⟨by rfl, ?hq3⟩) (by assumption) ?rq3
                      case hq3 => (intro wS hSw; (try dsimp only at hSw); go_simp; try with_reducible rfl)
                      case rq3 =>
                        try simp only [Act.put, List.setIfInBounds_toArray, List.set_cons_zero, List.set_cons_succ, List.getElem_toArray, List.getElem_cons_succ, List.getElem_cons_zero]
                        refine wpAnyH_take (i := 3) (v := ?vq4) rfl (by kernel_rfl) (by kernel_rfl) (by kernel_rfl) (fun _ _ _ h => h) (Or.inl ⟨by rfl, ?hq4⟩) (by assumption) ?rq4
                        case hq4 => (intro wS hSw; (try dsimp only at hSw); go_simp; try with_reducible rfl)
                        case rq4 =>
                          try simp only [Act.put, List.setIfInBounds_toArray, List.set_cons_zero, List.set_cons_succ, List.getElem_toArray, List.getElem_cons_succ, List.getElem_cons_zero]
                          refine wpAnyH_take (i := 4) (v := ?vq5) rfl (by kernel_rfl) (by kernel_rfl) (by kernel_rfl) (fun _ _ _ h => h) (Or.inl ⟨by rfl, ?hq5⟩) (by assumption) ?rq5
                          case hq5 => (intro wS hSw; (try dsimp only at hSw); go_simp; try with_reducible rfl)
                          case rq5 =>
                            try simp only [Act.put, List.setIfInBounds_toArray, List.set_cons_zero, List.set_cons_succ, List.getElem_toArray, List.getElem_cons_succ, List.getElem_cons_zero]
                            refine wpAnyH_take (i := 5) (v := ?vq6) rfl (by kernel_rfl) (by kernel_rfl) (by kernel_rfl) (fun _ _ _ h => h) (Or.inl ⟨by rfl, ?hq6⟩) (by assumption) ?rq6
                            case hq6 => (intro wS hSw; (try dsimp only at hSw); go_simp; try with_reducible rfl)
                            case rq6 =>
                              try simp only [Act.put, List.setIfInBounds_toArray, List.set_cons_zero, List.set_cons_succ, List.getElem_toArray, List.getElem_cons_succ, List.getElem_cons_zero]
                              refine wpAnyH_take (i := 6) (v := ?vq7) rfl (by kernel_rfl) (by kernel_rfl) (by kernel_rfl) (fun _ _ _ h => h) (Or.inl ⟨by rfl, ?hq7⟩) (by assumption) ?rq7
                              case hq7 => (intro wS hSw; (try dsimp only at hSw); go_simp; try with_reducible rfl)
                              case rq7 =>
                                try simp only [Act.put, List.setIfInBounds_toArray, List.set_cons_zero, List.set_cons_succ, List.getElem_toArray, List.getElem_cons_succ, List.getElem_cons_zero]
                                refine wpAnyH_take (i := 7) (v := ?vq8) rfl (by kernel_rfl) (by kernel_rfl) (by kernel_rfl) (fun _ _ _ h => h) (Or.inl ⟨by rfl, ?hq8⟩) (by assumption) ?rq8
                                case hq8 => (intro wS hSw; (try dsimp only at hSw); go_simp; try with_reducible rfl)
                                case rq8 =>
                                  try simp only [Act.put, List.setIfInBounds_toArray, List.set_cons_zero, List.set_cons_succ, List.getElem_toArray, List.getElem_cons_succ, List.getElem_cons_zero]
                                  refine wpAnyH_take (i := 8) (v := ?vq9) rfl (by kernel_rfl) (by kernel_rfl) (by kernel_rfl) (fun _ _ _ h => h) (Or.inl ⟨by rfl, ?hq9⟩) (by assumption) ?rq9
                                  case hq9 => (intro wS hSw; (try dsimp only at hSw); go_simp; try with_reducible rfl)
                                  case rq9 =>
                                    try simp only [Act.put, List.setIfInBounds_toArray, List.set_cons_zero, List.set_cons_succ, List.getElem_toArray, List.getElem_cons_succ, List.getElem_cons_zero]
                                    refine wpAnyH_ready (rs := [9]) (by kernel_rfl) (by simp) ?_
                                    refine AllReadyH.cons rfl (fun K hK => ?_) AllReadyH.nil
                                    go_simp
                                    refine (HK.out _ hb0).mono ?_
                                    rintro e wQ ⟨rfl, hbQ0⟩
                                    have hbQ : Below wr.heap.size wr wQ := hb0.trans hbQ0
                                    go_wp2_with fail
                                    refine hK.out _ _ ?_ (fun hHeldq10 => ?_)
                                    · exact HSx.out wQ hbQ
                                    clear hK K
                                    try simp only [Act.put, List.setIfInBounds_toArray, List.set_cons_zero, List.set_cons_succ, List.getElem_toArray, List.getElem_cons_succ, List.getElem_cons_zero]
                                    refine wpAnyH_take (i := 10) (v := ?vq11) rfl (by kernel_rfl) (by kernel_rfl) (by kernel_rfl) (fun _ _ _ h => h) (Or.inl ⟨by rfl, ?hq11⟩) (by assumption) ?rq11
                                    case hq11 => (intro wS hSw; (try dsimp only at hSw); go_simp; try with_reducible rfl)
                                    case rq11 =>
                                      try simp only [Act.put, List.setIfInBounds_toArray, List.set_cons_zero, List.set_cons_succ, List.getElem_toArray, List.getElem_cons_succ, List.getElem_cons_zero]
                                      refine wpAnyH_take (i := 11) (v := ?vq12) rfl (by kernel_rfl) (by kernel_rfl) (by kernel_rfl) (fun _ _ _ h => h) (Or.inl ⟨by rfl, ?hq12⟩) (by assumption) ?rq12
                                      case hq12 => (intro wS hSw; (try dsimp only at hSw); go_simp; try with_reducible rfl)
                                      case rq12 =>
                                        try simp only [Act.put, List.setIfInBounds_toArray, List.set_cons_zero, List.set_cons_succ, List.getElem_toArray, List.getElem_cons_succ, List.getElem_cons_zero]
                                        refine wpAnyH_take (i := 12) (v := ?vq13) rfl (by kernel_rfl) (by kernel_rfl) (by kernel_rfl) (fun _ _ _ h => h) (Or.inl ⟨by rfl, ?hq13⟩) (by assumption) ?rq13
                                        case hq13 => (intro wS hSw; (try dsimp only at hSw); go_simp; try with_reducible rfl)
                                        case rq13 =>
                                          try simp only [Act.put, List.setIfInBounds_toArray, List.set_cons_zero, List.set_cons_succ, List.getElem_toArray, List.getElem_cons_succ, List.getElem_cons_zero]
                                          refine wpAnyH_take (i := 13) (v := undef) rfl (by kernel_rfl) (by kernel_rfl) (by kernel_rfl) (fun _ _ _ h => h) (Or.inr ⟨by rfl, rfl⟩) (by assumption) ?rq14
                                          case rq14 =>
                                            try simp only [Act.put, List.setIfInBounds_toArray, List.set_cons_zero, List.set_cons_succ, List.getElem_toArray, List.getElem_cons_succ, List.getElem_cons_zero]
                                            refine wpAnyH_take (i := 14) (v := undef) rfl (by kernel_rfl) (by kernel_rfl) (by kernel_rfl) (fun _ _ _ h => h) (Or.inr ⟨by rfl, rfl⟩) (by assumption) ?rq15
                                            case rq15 =>
                                              try simp only [Act.put, List.setIfInBounds_toArray, List.set_cons_zero, List.set_cons_succ, List.getElem_toArray, List.getElem_cons_succ, List.getElem_cons_zero]
                                              refine wpAnyH_take (i := 15) (v := undef) rfl (by kernel_rfl) (by kernel_rfl) (by kernel_rfl) (fun _ _ _ h => h) (Or.inr ⟨by rfl, rfl⟩) (by assumption) ?rq16
                                              case rq16 =>
                                                try simp only [Act.put, List.setIfInBounds_toArray, List.set_cons_zero, List.set_cons_succ, List.getElem_toArray, List.getElem_cons_succ, List.getElem_cons_zero]
                                                refine wpAnyH_take (i := 16) (v := ?vq17) rfl (by kernel_rfl) (by kernel_rfl) (by kernel_rfl) (fun _ _ _ h => h) (Or.inl ⟨by rfl, ?hq17⟩) (by assumption) ?rq17
                                                case hq17 => (intro wS hSw; (try dsimp only at hSw); go_simp; try with_reducible rfl)
                                                case rq17 =>
                                                  try simp only [Act.put, List.setIfInBounds_toArray, List.set_cons_zero, List.set_cons_succ, List.getElem_toArray, List.getElem_cons_succ, List.getElem_cons_zero]
                                                  refine wpAnyH_take (i := 17) (v := ?vq18) rfl (by kernel_rfl) (by kernel_rfl) (by kernel_rfl) (fun _ _ _ h => h) (Or.inl ⟨by rfl, ?hq18⟩) (by assumption) ?rq18
                                                  case hq18 => (intro wS hSw; (try dsimp only at hSw); go_simp; try with_reducible rfl)
                                                  case rq18 =>
                                                    try simp only [Act.put, List.setIfInBounds_toArray, List.set_cons_zero, List.set_cons_succ, List.getElem_toArray, List.getElem_cons_succ, List.getElem_cons_zero]
                                                    refine wpAnyH_take (i := 18) (v := undef) rfl (by kernel_rfl) (by kernel_rfl) (by kernel_rfl) (fun _ _ _ h => h) (Or.inr ⟨by rfl, rfl⟩) (by assumption) ?rq19
                                                    case rq19 =>
                                                      try simp only [Act.put, List.setIfInBounds_toArray, List.set_cons_zero, List.set_cons_succ, List.getElem_toArray, List.getElem_cons_succ, List.getElem_cons_zero]
                                                      refine wpAnyH_take (i := 19) (v := undef) rfl (by kernel_rfl) (by kernel_rfl) (by kernel_rfl) (fun _ _ _ h => h) (Or.inr ⟨by rfl, rfl⟩) (by assumption) ?rq20
                                                      case rq20 =>
                                                        try simp only [Act.put, List.setIfInBounds_toArray, List.set_cons_zero, List.set_cons_succ, List.getElem_toArray, List.getElem_cons_succ, List.getElem_cons_zero]
                                                        refine wpAnyH_take (i := 20) (v := undef) rfl (by kernel_rfl) (by kernel_rfl) (by kernel_rfl) (fun _ _ _ h => h) (Or.inr ⟨by rfl, rfl⟩) (by assumption) ?rq21
                                                        case rq21 =>
                                                          try simp only [Act.put, List.setIfInBounds_toArray, List.set_cons_zero, List.set_cons_succ, List.getElem_toArray, List.getElem_cons_succ, List.getElem_cons_zero]
                                                          refine wpAnyH_take (i := 21) (v := undef) rfl (by kernel_rfl) (by kernel_rfl) (by kernel_rfl) (fun _ _ _ h => h) (Or.inr ⟨by rfl, rfl⟩) (by assumption) ?rq22
                                                          case rq22 =>
                                                            try simp only [Act.put, List.setIfInBounds_toArray, List.set_cons_zero, List.set_cons_succ, List.getElem_toArray, List.getElem_cons_succ, List.getElem_cons_zero]
                                                            refine wpAnyH_take (i := 22) (v := undef) rfl (by kernel_rfl) (by kernel_rfl) (by kernel_rfl) (fun _ _ _ h => h) (Or.inr ⟨by rfl, rfl⟩) (by assumption) ?rq23
                                                            case rq23 =>
                                                              try simp only [Act.put, List.setIfInBounds_toArray, List.set_cons_zero, List.set_cons_succ, List.getElem_toArray, List.getElem_cons_succ, List.getElem_cons_zero]
                                                              refine wpAnyH_take (i := 23) (v := undef) rfl (by kernel_rfl) (by kernel_rfl) (by kernel_rfl) (fun _ _ _ h => h) (Or.inr ⟨by rfl, rfl⟩) (by assumption) ?rq24
                                                              case rq24 =>
                                                                try simp only [Act.put, List.setIfInBounds_toArray, List.set_cons_zero, List.set_cons_succ, List.getElem_toArray, List.getElem_cons_succ, List.getElem_cons_zero]
                                                                refine wpAnyH_take (i := 24) (v := undef) rfl (by kernel_rfl) (by kernel_rfl) (by kernel_rfl) (fun _ _ _ h => h) (Or.inr ⟨by rfl, rfl⟩) (by assumption) ?rq25
                                                                case rq25 =>
                                                                  try simp only [Act.put, List.setIfInBounds_toArray, List.set_cons_zero, List.set_cons_succ, List.getElem_toArray, List.getElem_cons_succ, List.getElem_cons_zero]
                                                                  refine wpAnyH_take (i := 25) (v := undef) rfl (by kernel_rfl) (by kernel_rfl) (by kernel_rfl) (fun _ _ _ h => h) (Or.inr ⟨by rfl, rfl⟩) (by assumption) ?rq26
                                                                  case rq26 =>
                                                                    try simp only [Act.put, List.setIfInBounds_toArray, List.set_cons_zero, List.set_cons_succ, List.getElem_toArray, List.getElem_cons_succ, List.getElem_cons_zero]
                                                                    refine wpAnyH_take (i := 26) (v := undef) rfl (by kernel_rfl) (by kernel_rfl) (by kernel_rfl) (fun _ _ _ h => h) (Or.inr ⟨by rfl, rfl⟩) (by assumption) ?rq27
                                                                    case rq27 =>
                                                                      try simp only [Act.put, List.setIfInBounds_toArray, List.set_cons_zero, List.set_cons_succ, List.getElem_toArray, List.getElem_cons_succ, List.getElem_cons_zero]
                                                                      refine wpAnyH_take (i := 27) (v := undef) rfl (by kernel_rfl) (by kernel_rfl) (by kernel_rfl) (fun _ _ _ h => h) (Or.inr ⟨by rfl, rfl⟩) (by assumption) ?rq28
                                                                      case rq28 =>
                                                                        try simp only [Act.put, List.setIfInBounds_toArray, List.set_cons_zero, List.set_cons_succ, List.getElem_toArray, List.getElem_cons_succ, List.getElem_cons_zero]
                                                                        refine wpAnyH_take (i := 28) (v := ?vq29) rfl (by kernel_rfl) (by kernel_rfl) (by kernel_rfl) (fun _ _ _ h => h) (Or.inl ⟨by rfl, ?hq29⟩) (by assumption) ?rq29
                                                                        case hq29 => (intro wS hSw; (try dsimp only at hSw); go_simp; try with_reducible rfl)
                                                                        case rq29 =>
                                                                          try simp only [Act.put, List.setIfInBounds_toArray, List.set_cons_zero, List.set_cons_succ, List.getElem_toArray, List.getElem_cons_succ, List.getElem_cons_zero]
                                                                          refine wpAnyH_take (i := 29) (v := ?vq30) rfl (by kernel_rfl) (by kernel_rfl) (by kernel_rfl) (fun _ _ _ h => h) (Or.inl ⟨by rfl, ?hq30⟩) (by assumption) ?rq30
                                                                          case hq30 => (intro wS hSw; (try dsimp only at hSw); go_simp; try with_reducible rfl)
                                                                          case rq30 =>
                                                                            try simp only [Act.put, List.setIfInBounds_toArray, List.set_cons_zero, List.set_cons_succ, List.getElem_toArray, List.getElem_cons_succ, List.getElem_cons_zero]
                                                                            refine wpAnyH_done (by kernel_rfl) ?_ _
                                                                            go_wp2_with fail
                                                                            go_ret
                                                                            exact ⟨by rw [HU.out, HS.out]; simp [h5]; try rfl, HI.out.bel.trans (hbQ.mono HI.out.bel.size)⟩
              have e5 : ((l.length : Int) == takesM p op 0) = true := by simpa using h5
              by_cases h6 : 0 ≤ t
              case neg =>
                as_aux_lemma =>
                  have e6 : decide (0 ≤ t) = false := by simpa using h6
                  have HL : Hid (inL t (fnAt p f).code.length = false) := by show _ = _; simp [inL, h6]
                  refine wp_region_held_drew (S := fun w' => w'.cell? ⟨w.heap.size, 0, none⟩ = some (.slice (some ⟨bf, offf, none⟩) p.length cap) ∧ w'.cell? ⟨w.heap.size + 1, 1, none⟩ = some (.int .i64 op) ∧ w'.cell? ⟨w.heap.size + 1, 2, none⟩ = some (.int .i64 (-1)) ∧ w'.cell? ⟨w.heap.size + 1, 4, none⟩ = some (.int .i64 t) ∧ w'.cell? ⟨bf, offf + f * 3 + 2, none⟩ = some (.slice Ac cl.length capc)) (by kernel_rfl) (HSx.out _ hb0) (fun hHeld => ?_)
                  refine wpAnyH_take (i := 0) (v := ?vr1) rfl (by kernel_rfl) (by kernel_rfl) (by kernel_rfl) (fun _ _ _ h => h) (Or.inl ⟨by rfl, ?hr1⟩) (by assumption) ?rr1
                  case hr1 => (intro wS hSw; (try dsimp only at hSw); go_simp; try with_reducible rfl)
                  case rr1 =>
                    try simp only [Act.put, List.setIfInBounds_toArray, List.set_cons_zero, List.set_cons_succ, List.getElem_toArray, List.getElem_cons_zero]
                    refine wpAnyH_take (i := 1) (v := ?vr2) rfl (by kernel_rfl) (by kernel_rfl) (by kernel_rfl) (fun _ _ _ h => h) (Or.inl ⟨by rfl, ?hr2⟩) (by assumption) ?rr2
                    case hr2 => (intro wS hSw; (try dsimp only at hSw); go_simp; try with_reducible rfl)
                    case rr2 =>
                      try simp only [Act.put, List.setIfInBounds_toArray, List.set_cons_zero, List.set_cons_succ, List.getElem_toArray, List.getElem_cons_succ, List.getElem_cons_zero]
                      refine wpAnyH_take (i := 2) (v := ?vr3) rfl (by kernel_rfl) (by kernel_rfl) (by kernel_rfl) (fun _ _ _ h => h) (Or.inl ⟨by rfl, ?hr3⟩) (by assumption) ?rr3
                      case hr3 => (intro wS hSw; (try dsimp only at hSw); go_simp; try with_reducible rfl)
                      case rr3 =>
                        try simp only [Act.put, List.setIfInBounds_toArray, List.set_cons_zero, List.set_cons_succ, List.getElem_toArray, List.getElem_cons_succ, List.getElem_cons_zero]
                        refine wpAnyH_take (i := 3) (v := ?vr4) rfl (by kernel_rfl) (by kernel_rfl) (by kernel_rfl) (fun _ _ _ h => h) (Or.inl ⟨by rfl, ?hr4⟩) (by assumption) ?rr4
                        case hr4 => (intro wS hSw; (try dsimp only at hSw); go_simp; try with_reducible rfl)
                        case rr4 =>
                          try simp only [Act.put, List.setIfInBounds_toArray, List.set_cons_zero, List.set_cons_succ, List.getElem_toArray, List.getElem_cons_succ, List.getElem_cons_zero]
                          refine wpAnyH_take (i := 4) (v := ?vr5) rfl (by kernel_rfl) (by kernel_rfl) (by kernel_rfl) (fun _ _ _ h => h) (Or.inl ⟨by rfl, ?hr5⟩) (by assumption) ?rr5
                          case hr5 => (intro wS hSw; (try dsimp only at hSw); go_simp; try with_reducible rfl)
                          case rr5 =>
                            try simp only [Act.put, List.setIfInBounds_toArray, List.set_cons_zero, List.set_cons_succ, List.getElem_toArray, List.getElem_cons_succ, List.getElem_cons_zero]
                            refine wpAnyH_take (i := 5) (v := ?vr6) rfl (by kernel_rfl) (by kernel_rfl) (by kernel_rfl) (fun _ _ _ h => h) (Or.inl ⟨by rfl, ?hr6⟩) (by assumption) ?rr6
                            case hr6 => (intro wS hSw; (try dsimp only at hSw); go_simp; try with_reducible rfl)
                            case rr6 =>
                              try simp only [Act.put, List.setIfInBounds_toArray, List.set_cons_zero, List.set_cons_succ, List.getElem_toArray, List.getElem_cons_succ, List.getElem_cons_zero]
                              refine wpAnyH_take (i := 6) (v := ?vr7) rfl (by kernel_rfl) (by kernel_rfl) (by kernel_rfl) (fun _ _ _ h => h) (Or.inl ⟨by rfl, ?hr7⟩) (by assumption) ?rr7
                              case hr7 => (intro wS hSw; (try dsimp only at hSw); go_simp; try with_reducible rfl)
                              case rr7 =>
                                try simp only [Act.put, List.setIfInBounds_toArray, List.set_cons_zero, List.set_cons_succ, List.getElem_toArray, List.getElem_cons_succ, List.getElem_cons_zero]
                                refine wpAnyH_take (i := 7) (v := ?vr8) rfl (by kernel_rfl) (by kernel_rfl) (by kernel_rfl) (fun _ _ _ h => h) (Or.inl ⟨by rfl, ?hr8⟩) (by assumption) ?rr8
                                case hr8 => (intro wS hSw; (try dsimp only at hSw); go_simp; try with_reducible rfl)
                                case rr8 =>
                                  try simp only [Act.put, List.setIfInBounds_toArray, List.set_cons_zero, List.set_cons_succ, List.getElem_toArray, List.getElem_cons_succ, List.getElem_cons_zero]
                                  refine wpAnyH_take (i := 8) (v := ?vr9) rfl (by kernel_rfl) (by kernel_rfl) (by kernel_rfl) (fun _ _ _ h => h) (Or.inl ⟨by rfl, ?hr9⟩) (by assumption) ?rr9
                                  case hr9 => (intro wS hSw; (try dsimp only at hSw); go_simp; try with_reducible rfl)
                                  case rr9 =>
                                    try simp only [Act.put, List.setIfInBounds_toArray, List.set_cons_zero, List.set_cons_succ, List.getElem_toArray, List.getElem_cons_succ, List.getElem_cons_zero]
                                    refine wpAnyH_ready (rs := [9]) (by kernel_rfl) (by simp) ?_
                                    refine AllReadyH.cons rfl (fun K hK => ?_) AllReadyH.nil
                                    go_simp
                                    refine (HK.out _ hb0).mono ?_
                                    rintro e wQ ⟨rfl, hbQ0⟩
                                    have hbQ : Below wr.heap.size wr wQ := hb0.trans hbQ0
                                    go_wp2_with fail
                                    refine hK.out _ _ ?_ (fun hHeldr10 => ?_)
                                    · exact HSx.out wQ hbQ
                                    clear hK K
                                    try simp only [Act.put, List.setIfInBounds_toArray, List.set_cons_zero, List.set_cons_succ, List.getElem_toArray, List.getElem_cons_succ, List.getElem_cons_zero]
                                    refine wpAnyH_take (i := 10) (v := ?vr11) rfl (by kernel_rfl) (by kernel_rfl) (by kernel_rfl) (fun _ _ _ h => h) (Or.inl ⟨by rfl, ?hr11⟩) (by assumption) ?rr11
                                    case hr11 => (intro wS hSw; (try dsimp only at hSw); go_simp; try with_reducible rfl)
                                    case rr11 =>
                                      try simp only [Act.put, List.setIfInBounds_toArray, List.set_cons_zero, List.set_cons_succ, List.getElem_toArray, List.getElem_cons_succ, List.getElem_cons_zero]
                                      refine wpAnyH_take (i := 11) (v := ?vr12) rfl (by kernel_rfl) (by kernel_rfl) (by kernel_rfl) (fun _ _ _ h => h) (Or.inl ⟨by rfl, ?hr12⟩) (by assumption) ?rr12
                                      case hr12 => (intro wS hSw; (try dsimp only at hSw); go_simp; try with_reducible rfl)
                                      case rr12 =>
                                        try simp only [Act.put, List.setIfInBounds_toArray, List.set_cons_zero, List.set_cons_succ, List.getElem_toArray, List.getElem_cons_succ, List.getElem_cons_zero]
                                        refine wpAnyH_take (i := 12) (v := ?vr13) rfl (by kernel_rfl) (by kernel_rfl) (by kernel_rfl) (fun _ _ _ h => h) (Or.inl ⟨by rfl, ?hr13⟩) (by assumption) ?rr13
                                        case hr13 => (intro wS hSw; (try dsimp only at hSw); go_simp; try with_reducible rfl)
                                        case rr13 =>
                                          try simp only [Act.put, List.setIfInBounds_toArray, List.set_cons_zero, List.set_cons_succ, List.getElem_toArray, List.getElem_cons_succ, List.getElem_cons_zero]
                                          refine wpAnyH_take (i := 13) (v := ?vr14) rfl (by kernel_rfl) (by kernel_rfl) (by kernel_rfl) (fun _ _ _ h => h) (Or.inl ⟨by rfl, ?hr14⟩) (by assumption) ?rr14
                                          case hr14 => (intro wS hSw; (try dsimp only at hSw); go_simp; try with_reducible rfl)
                                          case rr14 =>
                                            try simp only [Act.put, List.setIfInBounds_toArray, List.set_cons_zero, List.set_cons_succ, List.getElem_toArray, List.getElem_cons_succ, List.getElem_cons_zero]
                                            refine wpAnyH_take (i := 14) (v := ?vr15) rfl (by kernel_rfl) (by kernel_rfl) (by kernel_rfl) (fun _ _ _ h => h) (Or.inl ⟨by rfl, ?hr15⟩) (by assumption) ?rr15
                                            case hr15 => (intro wS hSw; (try dsimp only at hSw); go_simp; try with_reducible rfl)
                                            case rr15 =>
                                              try simp only [Act.put, List.setIfInBounds_toArray, List.set_cons_zero, List.set_cons_succ, List.getElem_toArray, List.getElem_cons_succ, List.getElem_cons_zero]
                                              refine wpAnyH_take (i := 15) (v := ?vr16) rfl (by kernel_rfl) (by kernel_rfl) (by kernel_rfl) (fun _ _ _ h => h) (Or.inl ⟨by rfl, ?hr16⟩) (by assumption) ?rr16
                                              case hr16 => (intro wS hSw; (try dsimp only at hSw); go_simp; try with_reducible rfl)
                                              case rr16 =>
                                                try simp only [Act.put, List.setIfInBounds_toArray, List.set_cons_zero, List.set_cons_succ, List.getElem_toArray, List.getElem_cons_succ, List.getElem_cons_zero]
                                                refine wpAnyH_take (i := 16) (v := ?vr17) rfl (by kernel_rfl) (by kernel_rfl) (by kernel_rfl) (fun _ _ _ h => h) (Or.inl ⟨by rfl, ?hr17⟩) (by assumption) ?rr17
                                                case hr17 => (intro wS hSw; (try dsimp only at hSw); go_simp; try with_reducible rfl)
                                                case rr17 =>
                                                  try simp only [Act.put, List.setIfInBounds_toArray, List.set_cons_zero, List.set_cons_succ, List.getElem_toArray, List.getElem_cons_succ, List.getElem_cons_zero]
                                                  refine wpAnyH_take (i := 17) (v := ?vr18) rfl (by kernel_rfl) (by kernel_rfl) (by kernel_rfl) (fun _ _ _ h => h) (Or.inl ⟨by rfl, ?hr18⟩) (by assumption) ?rr18
                                                  case hr18 => (intro wS hSw; (try dsimp only at hSw); go_simp; try with_reducible rfl)
                                                  case rr18 =>
                                                    try simp only [Act.put, List.setIfInBounds_toArray, List.set_cons_zero, List.set_cons_succ, List.getElem_toArray, List.getElem_cons_succ, List.getElem_cons_zero]
                                                    refine wpAnyH_take (i := 18) (v := undef) rfl (by kernel_rfl) (by kernel_rfl) (by kernel_rfl) (fun _ _ _ h => h) (Or.inr ⟨by rfl, rfl⟩) (by assumption) ?rr19
                                                    case rr19 =>
                                                      try simp only [Act.put, List.setIfInBounds_toArray, List.set_cons_zero, List.set_cons_succ, List.getElem_toArray, List.getElem_cons_succ, List.getElem_cons_zero]
                                                      refine wpAnyH_take (i := 19) (v := undef) rfl (by kernel_rfl) (by kernel_rfl) (by kernel_rfl) (fun _ _ _ h => h) (Or.inr ⟨by rfl, rfl⟩) (by assumption) ?rr20
                                                      case rr20 =>
                                                        try simp only [Act.put, List.setIfInBounds_toArray, List.set_cons_zero, List.set_cons_succ, List.getElem_toArray, List.getElem_cons_succ, List.getElem_cons_zero]
                                                        refine wpAnyH_take (i := 20) (v := undef) rfl (by kernel_rfl) (by kernel_rfl) (by kernel_rfl) (fun _ _ _ h => h) (Or.inr ⟨by rfl, rfl⟩) (by assumption) ?rr21
                                                        case rr21 =>
                                                          try simp only [Act.put, List.setIfInBounds_toArray, List.set_cons_zero, List.set_cons_succ, List.getElem_toArray, List.getElem_cons_succ, List.getElem_cons_zero]
                                                          refine wpAnyH_take (i := 21) (v := undef) rfl (by kernel_rfl) (by kernel_rfl) (by kernel_rfl) (fun _ _ _ h => h) (Or.inr ⟨by rfl, rfl⟩) (by assumption) ?rr22
                                                          case rr22 =>
                                                            try simp only [Act.put, List.setIfInBounds_toArray, List.set_cons_zero, List.set_cons_succ, List.getElem_toArray, List.getElem_cons_succ, List.getElem_cons_zero]
                                                            refine wpAnyH_take (i := 22) (v := undef) rfl (by kernel_rfl) (by kernel_rfl) (by kernel_rfl) (fun _ _ _ h => h) (Or.inr ⟨by rfl, rfl⟩) (by assumption) ?rr23
                                                            case rr23 =>
                                                              try simp only [Act.put, List.setIfInBounds_toArray, List.set_cons_zero, List.set_cons_succ, List.getElem_toArray, List.getElem_cons_succ, List.getElem_cons_zero]
                                                              refine wpAnyH_take (i := 23) (v := undef) rfl (by kernel_rfl) (by kernel_rfl) (by kernel_rfl) (fun _ _ _ h => h) (Or.inr ⟨by rfl, rfl⟩) (by assumption) ?rr24
                                                              case rr24 =>
                                                                try simp only [Act.put, List.setIfInBounds_toArray, List.set_cons_zero, List.set_cons_succ, List.getElem_toArray, List.getElem_cons_succ, List.getElem_cons_zero]
                                                                refine wpAnyH_take (i := 24) (v := undef) rfl (by kernel_rfl) (by kernel_rfl) (by kernel_rfl) (fun _ _ _ h => h) (Or.inr ⟨by rfl, rfl⟩) (by assumption) ?rr25
                                                                case rr25 =>
                                                                  try simp only [Act.put, List.setIfInBounds_toArray, List.set_cons_zero, List.set_cons_succ, List.getElem_toArray, List.getElem_cons_succ, List.getElem_cons_zero]
                                                                  refine wpAnyH_take (i := 25) (v := undef) rfl (by kernel_rfl) (by kernel_rfl) (by kernel_rfl) (fun _ _ _ h => h) (Or.inr ⟨by rfl, rfl⟩) (by assumption) ?rr26
                                                                  case rr26 =>
                                                                    try simp only [Act.put, List.setIfInBounds_toArray, List.set_cons_zero, List.set_cons_succ, List.getElem_toArray, List.getElem_cons_succ, List.getElem_cons_zero]
                                                                    refine wpAnyH_take (i := 26) (v := undef) rfl (by kernel_rfl) (by kernel_rfl) (by kernel_rfl) (fun _ _ _ h => h) (Or.inr ⟨by rfl, rfl⟩) (by assumption) ?rr27
                                                                    case rr27 =>
                                                                      try simp only [Act.put, List.setIfInBounds_toArray, List.set_cons_zero, List.set_cons_succ, List.getElem_toArray, List.getElem_cons_succ, List.getElem_cons_zero]
                                                                      refine wpAnyH_take (i := 27) (v := undef) rfl (by kernel_rfl) (by kernel_rfl) (by kernel_rfl) (fun _ _ _ h => h) (Or.inr ⟨by rfl, rfl⟩) (by assumption) ?rr28
                                                                      case rr28 =>
                                                                        try simp only [Act.put, List.setIfInBounds_toArray, List.set_cons_zero, List.set_cons_succ, List.getElem_toArray, List.getElem_cons_succ, List.getElem_cons_zero]
                                                                        refine wpAnyH_take (i := 28) (v := ?vr29) rfl (by kernel_rfl) (by kernel_rfl) (by kernel_rfl) (fun _ _ _ h => h) (Or.inl ⟨by rfl, ?hr29⟩) (by assumption) ?rr29
                                                                        case hr29 => (intro wS hSw; (try dsimp only at hSw); go_simp; try with_reducible rfl)
                                                                        case rr29 =>
                                                                          try simp only [Act.put, List.setIfInBounds_toArray, List.set_cons_zero, List.set_cons_succ, List.getElem_toArray, List.getElem_cons_succ, List.getElem_cons_zero]
                                                                          refine wpAnyH_take (i := 29) (v := ?vr30) rfl (by kernel_rfl) (by kernel_rfl) (by kernel_rfl) (fun _ _ _ h => h) (Or.inl ⟨by rfl, ?hr30⟩) (by assumption) ?rr30
                                                                          case hr30 => (intro wS hSw; (try dsimp only at hSw); go_simp; try with_reducible rfl)
                                                                          case rr30 =>
                                                                            try simp only [Act.put, List.setIfInBounds_toArray, List.set_cons_zero, List.set_cons_succ, List.getElem_toArray, List.getElem_cons_succ, List.getElem_cons_zero]
                                                                            refine wpAnyH_done (by kernel_rfl) ?_ _
                                                                            go_wp2_with fail
                                                                            go_ret
                                                                            exact ⟨by rw [HU.out, HS.out]; simp [h5, HL.out]; try rfl, HI.out.bel.trans (hbQ.mono HI.out.bel.size)⟩
              have e6 : decide (0 ≤ t) = true := by simpa using h6
              have HL : Hid (inL t (fnAt p f).code.length = decide (t < (cl.length : Int))) := by show _ = _; rw [HC.out]; simp [inL, h6]
              refine wp_region_held_drew (S := fun w' => w'.cell? ⟨w.heap.size, 0, none⟩ = some (.slice (some ⟨bf, offf, none⟩) p.length cap) ∧ w'.cell? ⟨w.heap.size + 1, 1, none⟩ = some (.int .i64 op) ∧ w'.cell? ⟨w.heap.size + 1, 2, none⟩ = some (.int .i64 (-1)) ∧ w'.cell? ⟨w.heap.size + 1, 4, none⟩ = some (.int .i64 t) ∧ w'.cell? ⟨bf, offf + f * 3 + 2, none⟩ = some (.slice Ac cl.length capc)) (by kernel_rfl) (HSx.out _ hb0) (fun hHeld => ?_)
              refine wpAnyH_take (i := 0) (v := ?vs1) rfl (by kernel_rfl) (by kernel_rfl) (by kernel_rfl) (fun _ _ _ h => h) (Or.inl ⟨by rfl, ?hs1⟩) (by assumption) ?rs1
              case hs1 => (intro wS hSw; (try dsimp only at hSw); go_simp; try with_reducible rfl)
              case rs1 =>
                try simp only [Act.put, List.setIfInBounds_toArray, List.set_cons_zero, List.set_cons_succ, List.getElem_toArray, List.getElem_cons_zero]
                refine wpAnyH_take (i := 1) (v := ?vs2) rfl (by kernel_rfl) (by kernel_rfl) (by kernel_rfl) (fun _ _ _ h => h) (Or.inl ⟨by rfl, ?hs2⟩) (by assumption) ?rs2
                case hs2 => (intro wS hSw; (try dsimp only at hSw); go_simp; try with_reducible rfl)
                case rs2 =>
                  try simp only [Act.put, List.setIfInBounds_toArray, List.set_cons_zero, List.set_cons_succ, List.getElem_toArray, List.getElem_cons_succ, List.getElem_cons_zero]
                  refine wpAnyH_take (i := 2) (v := ?vs3) rfl (by kernel_rfl) (by kernel_rfl) (by kernel_rfl) (fun _ _ _ h => h) (Or.inl ⟨by rfl, ?hs3⟩) (by assumption) ?rs3
                  case hs3 => (intro wS hSw; (try dsimp only at hSw); go_simp; try with_reducible rfl)
                  case rs3 =>
                    try simp only [Act.put, List.setIfInBounds_toArray, List.set_cons_zero, List.set_cons_succ, List.getElem_toArray, List.getElem_cons_succ, List.getElem_cons_zero]
                    refine wpAnyH_take (i := 3) (v := ?vs4) rfl (by kernel_rfl) (by kernel_rfl) (by kernel_rfl) (fun _ _ _ h => h) (Or.inl ⟨by rfl, ?hs4⟩) (by assumption) ?rs4
                    case hs4 => (intro wS hSw; (try dsimp only at hSw); go_simp; try with_reducible rfl)
                    case rs4 =>
                      try simp only [Act.put, List.setIfInBounds_toArray, List.set_cons_zero, List.set_cons_succ, List.getElem_toArray, List.getElem_cons_succ, List.getElem_cons_zero]
                      refine wpAnyH_take (i := 4) (v := ?vs5) rfl (by kernel_rfl) (by kernel_rfl) (by kernel_rfl) (fun _ _ _ h => h) (Or.inl ⟨by rfl, ?hs5⟩) (by assumption) ?rs5
                      case hs5 => (intro wS hSw; (try dsimp only at hSw); go_simp; try with_reducible rfl)
                      case rs5 =>
                        try simp only [Act.put, List.setIfInBounds_toArray, List.set_cons_zero, List.set_cons_succ, List.getElem_toArray, List.getElem_cons_succ, List.getElem_cons_zero]
                        refine wpAnyH_take (i := 5) (v := ?vs6) rfl (by kernel_rfl) (by kernel_rfl) (by kernel_rfl) (fun _ _ _ h => h) (Or.inl ⟨by rfl, ?hs6⟩) (by assumption) ?rs6
                        case hs6 => (intro wS hSw; (try dsimp only at hSw); go_simp; try with_reducible rfl)
                        case rs6 =>
                          try simp only [Act.put, List.setIfInBounds_toArray, List.set_cons_zero, List.set_cons_succ, List.getElem_toArray, List.getElem_cons_succ, List.getElem_cons_zero]
                          refine wpAnyH_take (i := 6) (v := ?vs7) rfl (by kernel_rfl) (by kernel_rfl) (by kernel_rfl) (fun _ _ _ h => h) (Or.inl ⟨by rfl, ?hs7⟩) (by assumption) ?rs7
                          case hs7 => (intro wS hSw; (try dsimp only at hSw); go_simp; try with_reducible rfl)
                          case rs7 =>
                            try simp only [Act.put, List.setIfInBounds_toArray, List.set_cons_zero, List.set_cons_succ, List.getElem_toArray, List.getElem_cons_succ, List.getElem_cons_zero]
                            refine wpAnyH_take (i := 7) (v := ?vs8) rfl (by kernel_rfl) (by kernel_rfl) (by kernel_rfl) (fun _ _ _ h => h) (Or.inl ⟨by rfl, ?hs8⟩) (by assumption) ?rs8
                            case hs8 => (intro wS hSw; (try dsimp only at hSw); go_simp; try with_reducible rfl)
                            case rs8 =>
                              try simp only [Act.put, List.setIfInBounds_toArray, List.set_cons_zero, List.set_cons_succ, List.getElem_toArray, List.getElem_cons_succ, List.getElem_cons_zero]
                              refine wpAnyH_take (i := 8) (v := ?vs9) rfl (by kernel_rfl) (by kernel_rfl) (by kernel_rfl) (fun _ _ _ h => h) (Or.inl ⟨by rfl, ?hs9⟩) (by assumption) ?rs9
                              case hs9 => (intro wS hSw; (try dsimp only at hSw); go_simp; try with_reducible rfl)
                              case rs9 =>
                                try simp only [Act.put, List.setIfInBounds_toArray, List.set_cons_zero, List.set_cons_succ, List.getElem_toArray, List.getElem_cons_succ, List.getElem_cons_zero]
                                refine wpAnyH_ready (rs := [9]) (by kernel_rfl) (by simp) ?_
                                refine AllReadyH.cons rfl (fun K hK => ?_) AllReadyH.nil
                                go_simp
                                refine (HK.out _ hb0).mono ?_
                                rintro e wQ ⟨rfl, hbQ0⟩
                                have hbQ : Below wr.heap.size wr wQ := hb0.trans hbQ0
                                go_wp2_with fail
                                refine hK.out _ _ ?_ (fun hHelds10 => ?_)
                                · exact HSx.out wQ hbQ
                                clear hK K
                                try simp only [Act.put, List.setIfInBounds_toArray, List.set_cons_zero, List.set_cons_succ, List.getElem_toArray, List.getElem_cons_succ, List.getElem_cons_zero]
                                refine wpAnyH_take (i := 10) (v := ?vs11) rfl (by kernel_rfl) (by kernel_rfl) (by kernel_rfl) (fun _ _ _ h => h) (Or.inl ⟨by rfl, ?hs11⟩) (by assumption) ?rs11
                                case hs11 => (intro wS hSw; (try dsimp only at hSw); go_simp; try with_reducible rfl)
                                case rs11 =>
                                  try simp only [Act.put, List.setIfInBounds_toArray, List.set_cons_zero, List.set_cons_succ, List.getElem_toArray, List.getElem_cons_succ, List.getElem_cons_zero]
                                  refine wpAnyH_take (i := 11) (v := ?vs12) rfl (by kernel_rfl) (by kernel_rfl) (by kernel_rfl) (fun _ _ _ h => h) (Or.inl ⟨by rfl, ?hs12⟩) (by assumption) ?rs12
                                  case hs12 => (intro wS hSw; (try dsimp only at hSw); go_simp; try with_reducible rfl)
                                  case rs12 =>
                                    try simp only [Act.put, List.setIfInBounds_toArray, List.set_cons_zero, List.set_cons_succ, List.getElem_toArray, List.getElem_cons_succ, List.getElem_cons_zero]
                                    refine wpAnyH_take (i := 12) (v := ?vs13) rfl (by kernel_rfl) (by kernel_rfl) (by kernel_rfl) (fun _ _ _ h => h) (Or.inl ⟨by rfl, ?hs13⟩) (by assumption) ?rs13
                                    case hs13 => (intro wS hSw; (try dsimp only at hSw); go_simp; try with_reducible rfl)
                                    case rs13 =>
                                      try simp only [Act.put, List.setIfInBounds_toArray, List.set_cons_zero, List.set_cons_succ, List.getElem_toArray, List.getElem_cons_succ, List.getElem_cons_zero]
                                      refine wpAnyH_take (i := 13) (v := ?vs14) rfl (by kernel_rfl) (by kernel_rfl) (by kernel_rfl) (fun _ _ _ h => h) (Or.inl ⟨by rfl, ?hs14⟩) (by assumption) ?rs14
                                      case hs14 => (intro wS hSw; (try dsimp only at hSw); go_simp; try with_reducible rfl)
                                      case rs14 =>
                                        try simp only [Act.put, List.setIfInBounds_toArray, List.set_cons_zero, List.set_cons_succ, List.getElem_toArray, List.getElem_cons_succ, List.getElem_cons_zero]
                                        refine wpAnyH_take (i := 14) (v := ?vs15) rfl (by kernel_rfl) (by kernel_rfl) (by kernel_rfl) (fun _ _ _ h => h) (Or.inl ⟨by rfl, ?hs15⟩) (by assumption) ?rs15
                                        case hs15 => (intro wS hSw; (try dsimp only at hSw); go_simp; try with_reducible rfl)
                                        case rs15 =>
                                          try simp only [Act.put, List.setIfInBounds_toArray, List.set_cons_zero, List.set_cons_succ, List.getElem_toArray, List.getElem_cons_succ, List.getElem_cons_zero]
                                          refine wpAnyH_take (i := 15) (v := ?vs16) rfl (by kernel_rfl) (by kernel_rfl) (by kernel_rfl) (fun _ _ _ h => h) (Or.inl ⟨by rfl, ?hs16⟩) (by assumption) ?rs16
                                          case hs16 => (intro wS hSw; (try dsimp only at hSw); go_simp; try with_reducible rfl)
                                          case rs16 =>
                                            try simp only [Act.put, List.setIfInBounds_toArray, List.set_cons_zero, List.set_cons_succ, List.getElem_toArray, List.getElem_cons_succ, List.getElem_cons_zero]
                                            refine wpAnyH_take (i := 16) (v := ?vs17) rfl (by kernel_rfl) (by kernel_rfl) (by kernel_rfl) (fun _ _ _ h => h) (Or.inl ⟨by rfl, ?hs17⟩) (by assumption) ?rs17
                                            case hs17 => (intro wS hSw; (try dsimp only at hSw); go_simp; try with_reducible rfl)
                                            case rs17 =>
                                              try simp only [Act.put, List.setIfInBounds_toArray, List.set_cons_zero, List.set_cons_succ, List.getElem_toArray, List.getElem_cons_succ, List.getElem_cons_zero]
                                              refine wpAnyH_take (i := 17) (v := ?vs18) rfl (by kernel_rfl) (by kernel_rfl) (by kernel_rfl) (fun _ _ _ h => h) (Or.inl ⟨by rfl, ?hs18⟩) (by assumption) ?rs18
                                              case hs18 => (intro wS hSw; (try dsimp only at hSw); go_simp; try with_reducible rfl)
                                              case rs18 =>
                                                try simp only [Act.put, List.setIfInBounds_toArray, List.set_cons_zero, List.set_cons_succ, List.getElem_toArray, List.getElem_cons_succ, List.getElem_cons_zero]
                                                refine wpAnyH_take (i := 18) (v := ?vs19) rfl (by kernel_rfl) (by kernel_rfl) (by kernel_rfl) (fun _ _ _ h => h) (Or.inl ⟨by rfl, ?hs19⟩) (by assumption) ?rs19
                                                case hs19 => (intro wS hSw; (try dsimp only at hSw); go_simp; try with_reducible rfl)
                                                case rs19 =>
                                                  try simp only [Act.put, List.setIfInBounds_toArray, List.set_cons_zero, List.set_cons_succ, List.getElem_toArray, List.getElem_cons_succ, List.getElem_cons_zero]
                                                  refine wpAnyH_take (i := 19) (v := ?vs20) rfl (by kernel_rfl) (by kernel_rfl) (by kernel_rfl) (fun _ _ _ h => h) (Or.inl ⟨by rfl, ?hs20⟩) (by assumption) ?rs20
                                                  case hs20 => (intro wS hSw; (try dsimp only at hSw); go_simp; try with_reducible rfl)
                                                  case rs20 =>
                                                    try simp only [Act.put, List.setIfInBounds_toArray, List.set_cons_zero, List.set_cons_succ, List.getElem_toArray, List.getElem_cons_succ, List.getElem_cons_zero]
                                                    refine wpAnyH_take (i := 20) (v := ?vs21) rfl (by kernel_rfl) (by kernel_rfl) (by kernel_rfl) (fun _ _ _ h => h) (Or.inl ⟨by rfl, ?hs21⟩) (by assumption) ?rs21
                                                    case hs21 => (intro wS hSw; (try dsimp only at hSw); go_simp; try with_reducible rfl)
                                                    case rs21 =>
                                                      try simp only [Act.put, List.setIfInBounds_toArray, List.set_cons_zero, List.set_cons_succ, List.getElem_toArray, List.getElem_cons_succ, List.getElem_cons_zero]
                                                      refine wpAnyH_take (i := 21) (v := ?vs22) rfl (by kernel_rfl) (by kernel_rfl) (by kernel_rfl) (fun _ _ _ h => h) (Or.inl ⟨by rfl, ?hs22⟩) (by assumption) ?rs22
                                                      case hs22 => (intro wS hSw; (try dsimp only at hSw); go_simp; try with_reducible rfl)
                                                      case rs22 =>
                                                        try simp only [Act.put, List.setIfInBounds_toArray, List.set_cons_zero, List.set_cons_succ, List.getElem_toArray, List.getElem_cons_succ, List.getElem_cons_zero]
                                                        refine wpAnyH_take (i := 22) (v := ?vs23) rfl (by kernel_rfl) (by kernel_rfl) (by kernel_rfl) (fun _ _ _ h => h) (Or.inl ⟨by rfl, ?hs23⟩) (by assumption) ?rs23
                                                        case hs23 => (intro wS hSw; (try dsimp only at hSw); go_simp; try with_reducible rfl)
                                                        case rs23 =>
                                                          try simp only [Act.put, List.setIfInBounds_toArray, List.set_cons_zero, List.set_cons_succ, List.getElem_toArray, List.getElem_cons_succ, List.getElem_cons_zero]
                                                          refine wpAnyH_take (i := 23) (v := ?vs24) rfl (by kernel_rfl) (by kernel_rfl) (by kernel_rfl) (fun _ _ _ h => h) (Or.inl ⟨by rfl, ?hs24⟩) (by assumption) ?rs24
                                                          case hs24 => (intro wS hSw; (try dsimp only at hSw); go_simp; try with_reducible rfl)
                                                          case rs24 =>
                                                            try simp only [Act.put, List.setIfInBounds_toArray, List.set_cons_zero, List.set_cons_succ, List.getElem_toArray, List.getElem_cons_succ, List.getElem_cons_zero]
                                                            refine wpAnyH_take (i := 24) (v := ?vs25) rfl (by kernel_rfl) (by kernel_rfl) (by kernel_rfl) (fun _ _ _ h => h) (Or.inl ⟨by rfl, ?hs25⟩) (by assumption) ?rs25
                                                            case hs25 => (intro wS hSw; (try dsimp only at hSw); go_simp; try with_reducible rfl)
                                                            case rs25 =>
                                                              try simp only [Act.put, List.setIfInBounds_toArray, List.set_cons_zero, List.set_cons_succ, List.getElem_toArray, List.getElem_cons_succ, List.getElem_cons_zero]
                                                              refine wpAnyH_take (i := 25) (v := ?vs26) rfl (by kernel_rfl) (by kernel_rfl) (by kernel_rfl) (fun _ _ _ h => h) (Or.inl ⟨by rfl, ?hs26⟩) (by assumption) ?rs26
                                                              case hs26 => (intro wS hSw; (try dsimp only at hSw); go_simp; try with_reducible rfl)
                                                              case rs26 =>
                                                                try simp only [Act.put, List.setIfInBounds_toArray, List.set_cons_zero, List.set_cons_succ, List.getElem_toArray, List.getElem_cons_succ, List.getElem_cons_zero]
                                                                refine wpAnyH_take (i := 26) (v := ?vs27) rfl (by kernel_rfl) (by kernel_rfl) (by kernel_rfl) (fun _ _ _ h => h) (Or.inl ⟨by rfl, ?hs27⟩) (by assumption) ?rs27
                                                                case hs27 => (intro wS hSw; (try dsimp only at hSw); go_simp; try with_reducible rfl)
                                                                case rs27 =>
                                                                  try simp only [Act.put, List.setIfInBounds_toArray, List.set_cons_zero, List.set_cons_succ, List.getElem_toArray, List.getElem_cons_succ, List.getElem_cons_zero]
                                                                  refine wpAnyH_take (i := 27) (v := ?vs28) rfl (by kernel_rfl) (by kernel_rfl) (by kernel_rfl) (fun _ _ _ h => h) (Or.inl ⟨by rfl, ?hs28⟩) (by assumption) ?rs28
                                                                  case hs28 => (intro wS hSw; (try dsimp only at hSw); go_simp; try with_reducible rfl)
                                                                  case rs28 =>
                                                                    try simp only [Act.put, List.setIfInBounds_toArray, List.set_cons_zero, List.set_cons_succ, List.getElem_toArray, List.getElem_cons_succ, List.getElem_cons_zero]
                                                                    refine wpAnyH_take (i := 28) (v := ?vs29) rfl (by kernel_rfl) (by kernel_rfl) (by kernel_rfl) (fun _ _ _ h => h) (Or.inl ⟨by rfl, ?hs29⟩) (by assumption) ?rs29
                                                                    case hs29 => (intro wS hSw; (try dsimp only at hSw); go_simp; try with_reducible rfl)
                                                                    case rs29 =>
                                                                      try simp only [Act.put, List.setIfInBounds_toArray, List.set_cons_zero, List.set_cons_succ, List.getElem_toArray, List.getElem_cons_succ, List.getElem_cons_zero]
                                                                      refine wpAnyH_take (i := 29) (v := ?vs30) rfl (by kernel_rfl) (by kernel_rfl) (by kernel_rfl) (fun _ _ _ h => h) (Or.inl ⟨by rfl, ?hs30⟩) (by assumption) ?rs30
                                                                      case hs30 => (intro wS hSw; (try dsimp only at hSw); go_simp; try with_reducible rfl)
                                                                      case rs30 =>
                                                                        try simp only [Act.put, List.setIfInBounds_toArray, List.set_cons_zero, List.set_cons_succ, List.getElem_toArray, List.getElem_cons_succ, List.getElem_cons_zero]
                                                                        refine wpAnyH_done (by kernel_rfl) ?_ _
                                                                        go_wp2_with fail
                                                                        go_ret
                                                                        exact ⟨by rw [HU.out, HS.out]; simp [h5, HL.out]; try rfl, HI.out.bel.trans (hbQ.mono HI.out.bel.size)⟩
          have g4 : (op == 30) = false := by simpa using fun h => h3 (.inl h)
          have g5 : (op == 31) = false := by simpa using fun h => h3 (.inr h)
          have HS : Hid (fieldsS p f ⟨pre, op, tg, l, t⟩ = (decide (op = 32) && (decide (tg = -1) || locOk tg) && (inL t p.length && decide ((l.length : Int) = (fnAt p t).args)))) := by show fieldsS _ _ _ = _; simp only [fieldsS]; rw [if_neg n0, if_neg n1, if_neg n3, if_neg hk, if_neg h2, if_neg h3]
          clear hk n0 n1 n3 h2 h3 g1 g2 g3 e0 e1 e3
          go_upto_region 26 with fail
          clear g4 g5
          by_cases h32 : op = 32
          case neg =>
            as_aux_lemma =>
              have e32 : (op == 32) = false := by simpa using h32
              go_wp2
              go_ret
              exact ⟨by rw [HU.out, HS.out]; simp [h32]; try rfl, HI.out.bel⟩
          subst h32
          have HL : Hid (∀ b : Bool, (decide (tg = -1) || locOk tg) = b → fieldsS p f ⟨pre, 32, tg, l, t⟩ = (b && (inL t p.length && decide ((l.length : Int) = (fnAt p t).args)))) := fun b h => by rw [HS.out, h]; rfl
          clear HS
          by_cases h1 : tg = -1 ∨ locOk tg = true
          case neg =>
            as_aux_lemma =>
              have h1' : ¬ tg = -1 := fun h => h1 (.inl h)
              have h2 : locOk tg = false := by rw [Bool.eq_false_iff]; exact fun h => h1 (.inr h)
              have HS : Hid (fieldsS p f ⟨pre, 32, tg, l, t⟩ = false) := by show _ = _; rw [HL.out false (by simp [h1', h2])]; rfl
              have e1 : (tg == -1) = false := by simpa using h1'
              clear h1 h1'
              go_wp2_with fail
              refine (specLoc tg _).mono ?_
              rintro e w1 ⟨rfl, h⟩
              subst w1
              rw [h2]
              go_wp2_with fail
              go_ret
              exact ⟨by rw [HU.out, HS.out]; rfl, HI.out.bel⟩
          have HS : Hid (fieldsS p f ⟨pre, 32, tg, l, t⟩ = (inL t p.length && decide ((l.length : Int) = (fnAt p t).args))) := by show _ = _; rw [HL.out true (by simpa using h1)]; rfl
          clear HL
          by_cases h8 : tg = -1
          · as_aux_lemma =>
              subst h8
              clear h1
              by_cases h6 : 0 ≤ t
              case neg =>
                as_aux_lemma =>
                  have e6 : decide (0 ≤ t) = false := by simpa using h6
                  have HF : Hid (fieldsS p f ⟨pre, 32, -1, l, t⟩ = false) := by show _ = _; rw [HS.out]; simp [inL, h6]
                  go_wp2_with fail
                  go_ret
                  exact ⟨by rw [HU.out, HF.out]; rfl, HI.out.bel⟩
              have e6 : decide (0 ≤ t) = true := by simpa using h6
              by_cases h7 : t < p.length
              case neg =>
                as_aux_lemma =>
                  have e7 : decide (t < (p.length : Int)) = false := by simpa using h7
                  have HF : Hid (fieldsS p f ⟨pre, 32, -1, l, t⟩ = false) := by show _ = _; rw [HS.out]; simp [inL, h7]
                  go_wp2_with fail
                  go_ret
                  exact ⟨by rw [HU.out, HF.out]; rfl, HI.out.bel⟩
              have e7 : decide (t < (p.length : Int)) = true := by simpa using h7
              obtain ⟨tn, rfl⟩ := Int.eq_ofNat_of_zero_le h6
              have htn : tn < p.length := by omega
              obtain ⟨bt, offt, xt, rfl, hltt, kt0, -, -, -⟩ := HI.out.row.at tn htn
              have HF : Hid (fieldsS p f ⟨pre, 32, -1, l, (tn : Int)⟩ = decide ((l.length : Int) = p[tn].args)) := by show _ = _; rw [HS.out, fnAt_nat p tn htn]; simp [inL, htn]
              go_wp2_with fail
              go_ret
              exact ⟨by rw [HU.out, HF.out]; rfl, HI.out.bel⟩
          have e8 : (tg == -1) = false := by simpa using h8
          have h9 : locOk tg = true := h1.resolve_left h8
          clear h1 h8
          go_wp2_with fail
          refine (specLoc tg _).mono ?_
          rintro e w1 ⟨rfl, h⟩
          subst w1
          rw [h9]
          by_cases h6 : 0 ≤ t
          case neg =>
            as_aux_lemma =>
              have e6 : decide (0 ≤ t) = false := by simpa using h6
              have HF : Hid (fieldsS p f ⟨pre, 32, tg, l, t⟩ = false) := by show _ = _; rw [HS.out]; simp [inL, h6]
              go_wp2_with fail
              go_ret
              exact ⟨by rw [HU.out, HF.out]; rfl, HI.out.bel⟩
          have e6 : decide (0 ≤ t) = true := by simpa using h6
          by_cases h7 : t < p.length
          case neg =>
            as_aux_lemma =>
              have e7 : decide (t < (p.length : Int)) = false := by simpa using h7
              have HF : Hid (fieldsS p f ⟨pre, 32, tg, l, t⟩ = false) := by show _ = _; rw [HS.out]; simp [inL, h7]
              go_wp2_with fail
              go_ret
              exact ⟨by rw [HU.out, HF.out]; rfl, HI.out.bel⟩
          have e7 : decide (t < (p.length : Int)) = true := by simpa using h7
          obtain ⟨tn, rfl⟩ := Int.eq_ofNat_of_zero_le h6
          have htn : tn < p.length := by omega
          obtain ⟨bt, offt, xt, rfl, hltt, kt0, -, -, -⟩ := HI.out.row.at tn htn
          have HF : Hid (fieldsS p f ⟨pre, 32, tg, l, (tn : Int)⟩ = decide ((l.length : Int) = p[tn].args)) := by show _ = _; rw [HS.out, fnAt_nat p tn htn]; simp [inL, htn]
          go_wp2_with fail
          go_ret
          exact ⟨by rw [HU.out, HF.out]; rfl, HI.out.bel⟩
end Go.Proofs.YtijgonjnmibifaaGreatDoor
