/- impl.guessOf, Guess. -/
import Derived.Test.YtjifpeiilcneeaaDoorSeenI
import Derived.Test.YtjifpeiilcneeaaDoorGuessP
namespace Go.Proofs.YtjifpeiilcneeaaDoor
open Go.RowKit

set_option maxHeartbeats 1600000 in
theorem implGuessOf (u t : Int) (w : World) :
    Calls Tryd.prog 30 #[.agg #[.int .i64 u, .int .i64 t]] w fun e w' => e = .returned (.int .i64 (gs u t)) ∧ Below w.heap.size w w' := by
  obtain ⟨r, Hr⟩ : ∃ r, Hid (r = gs u t) := ⟨_, rfl⟩
  rw [← Hr.out]
  have Hb : Hid (Below w.heap.size w (w.alloc (.cells #[.int .i64 u, .int .i64 t] 56))) := (Below.refl _ _).alloc (Nat.le_refl _) _
  by_cases h0 : u = 0
  · subst h0
    by_cases h2 : 2 ≤ t
    · go_enter Tryd.func30, Tryd.ntmps30
      go_wp2_with fail
      go_ret
      exact ⟨by rw [Hr.out]; simp [gs, h2], Hb.out⟩
    · have Hz : Hid (gs 0 t = 0) := by show gs 0 t = 0; unfold gs; rw [if_neg (by omega), if_neg (by omega)]
      by_cases h3 : t = 0
      · subst h3
        go_enter Tryd.func30, Tryd.ntmps30
        go_wp2_with fail
        go_ret
        exact ⟨by rw [Hr.out, Hz.out]; rfl, Hb.out⟩
      · have h3' : (t == 0) = false := by simpa using h3
        go_enter Tryd.func30, Tryd.ntmps30
        go_wp2_with fail
        go_ret
        exact ⟨by rw [Hr.out, Hz.out]; rfl, Hb.out⟩
  · have h0' : (u == 0) = false := by simpa using h0
    by_cases h3 : t = 0
    · subst h3
      by_cases h2 : 2 ≤ u
      · have Hz : Hid (gs u 0 = 2) := by show gs u 0 = 2; unfold gs; rw [if_neg (by omega), if_pos (by omega)]
        go_enter Tryd.func30, Tryd.ntmps30
        go_wp2_with fail
        go_ret
        exact ⟨by rw [Hr.out, Hz.out]; rfl, Hb.out⟩
      · have Hz : Hid (gs u 0 = 0) := by show gs u 0 = 0; unfold gs; rw [if_neg (by omega), if_neg (by omega)]
        go_enter Tryd.func30, Tryd.ntmps30
        go_wp2_with fail
        go_ret
        exact ⟨by rw [Hr.out, Hz.out]; rfl, Hb.out⟩
    · have h3' : (t == 0) = false := by simpa using h3
      have Hz : Hid (gs u t = 0) := by show gs u t = 0; unfold gs; rw [if_neg (by omega), if_neg (by omega)]
      go_enter Tryd.func30, Tryd.ntmps30
      go_wp2_with fail
      go_ret
      exact ⟨by rw [Hr.out, Hz.out]; rfl, Hb.out⟩

def GuTold (P : Int → Prop) (w w' : World) (e : Ending) : Prop := ∃ n : Int, e = .returned (.int .i64 n) ∧ Below w.heap.size w w' ∧ P n

set_option maxRecDepth 100000 in
set_option maxHeartbeats 6400000 in
theorem implGuess (vp vl : Value) (p : List FnM) (l : List SnM) (f a : Int) (w : World) (ht : Tab w) (hr : FnRow 0 w vp p) (hs : SnRow 0 w vl l) (hbk : bulk p ≤ 1048576) :
    Calls Tryd.prog 14 #[.agg #[vp], vl, .int .i64 f, .int .i64 a] w fun e w' => GuTold (GuessI p l f a) w w' e := by
  have Hs : Hid (SnRow 0 w vl l) := hs
  have hll := hs.len
  obtain ⟨A, cap, rfl⟩ := hr.form
  obtain ⟨A1, a1, rfl⟩ := hs.form
  have heqs := eqSpotIn
  obtain ⟨wa, hwa⟩ : ∃ wa, wa = w.alloc (.cells #[.slice A p.length cap] 31) := ⟨_, rfl⟩
  have hal : Below w.heap.size w wa := by rw [hwa]; exact (Below.refl _ _).alloc (Nat.le_refl _) _
  have Hal : Hid (Below w.heap.size w wa) := hal
  have hsn := implSeen (.slice A p.length cap) (.slice A1 l.length a1) p l wa (ht.below hal) (hr.below hal) (hs.below hal) hbk
  have Hsn : Hid (Calls Tryd.prog 10 #[.agg #[.slice A p.length cap], .slice A1 l.length a1] wa fun e w' => SnTold (SnRight p l) wa w' e) := hsn
  clear hr hs ht hsn hal
  go_enter Tryd.func14, Tryd.ntmps14
  go_wp2_with fail
  rw [← hwa]
  clear hwa
  refine Calls.mono (R := fun e w' => SnTold (SnRight p l) wa w' e) Hsn.out ?_
  rintro e w1 ⟨b, rfl, hb1, hiff⟩
  have Hb1 : Hid (Below w.heap.size w w1) := Hal.out.trans (hb1.mono Hal.out.size)
  clear hb1 Hsn
  cases b with
  | false =>
    have HF : Hid (GuessI p l f a 0) := .inl ⟨fun h => by have := hiff.2 h; simp at this, rfl⟩
    clear hiff
    go_wp2_with fail
    go_ret
    exact ⟨0, rfl, Hb1.out, HF.out⟩
  | true =>
    have HR : Hid (SnRight p l) := hiff.1 rfl
    clear hiff
    go_wp2_with fail
    have Y0 : Hid (Box (w1.alloc (.cells #[.int .i64 f, .int .i64 a] 59)) w1.heap.size #[.int .i64 f, .int .i64 a]) := box_new w1 _ _
    have Y2 : Hid (Below w.heap.size w (w1.alloc (.cells #[.int .i64 f, .int .i64 a] 59))) := Hb1.out.alloc Hb1.out.size _
    go_loopg [21] (l.length) (fun gg i wr => ∃ k : Nat, k ≤ l.length ∧ i = .int .i64 k ∧ l.length ≤ k + gg ∧ Box wr w1.heap.size #[.int .i64 f, .int .i64 a] ∧ Below w.heap.size w wr ∧ ∀ j, j < k → ¬ HereS l f a j)
    case atStart => exact ⟨0, Nat.zero_le _, rfl, by omega, Y0.out, Y2.out, fun j h => by omega⟩
    case round =>
      clear Y0 Y2
      obtain ⟨k, hk, rfl, hkg, hB, hb, hall⟩ := hrel
      have Hb : Hid (Below w.heap.size w wr) := hb
      have HB : Hid (Box wr w1.heap.size #[.int .i64 f, .int .i64 a]) := hB
      have Hall : Hid (∀ j, j < k → ¬ HereS l f a j) := hall
      clear hb hall hB
      by_cases hkl : k < l.length
      case neg =>
        have HT : Hid (GuessI p l f a 0) := .inr ⟨HR.out, .inr ⟨fun j hj => Hall.out j (by have := hj.1; omega) hj, rfl⟩⟩
        go_wp2_with fail
        go_ret
        exact ⟨0, rfl, Hb.out, HT.out⟩
      obtain ⟨b0, off0, rfl, hlt, d0, d1, d2, d3⟩ := (Hs.out.below Hb.out).at k hkl
      obtain ⟨s, hs⟩ : ∃ s, s = l[k] := ⟨_, rfl⟩
      have Hsn : Hid (snAt l k = s) := by show snAt l k = s; rw [snAt_get l k hkl, hs]
      rw [← hs] at d0 d1 d2 d3
      clear hs
      obtain ⟨x, y, u, t⟩ := s
      simp only at d0 d1 d2 d3
      have hal : Below wr.heap.size wr (wr.alloc (.cells #[.int .i64 x, .int .i64 y, .int .i64 u, .int .i64 t] 43)) := (Below.refl _ _).alloc (Nat.le_refl _) _
      have X1 : Hid (Box (wr.alloc (.cells #[.int .i64 x, .int .i64 y, .int .i64 u, .int .i64 t] 43)) wr.heap.size #[.int .i64 x, .int .i64 y, .int .i64 u, .int .i64 t]) := box_new wr _ _
      have HB1 : Hid (Box (wr.alloc (.cells #[.int .i64 x, .int .i64 y, .int .i64 u, .int .i64 t] 43)) w1.heap.size #[.int .i64 f, .int .i64 a]) := HB.out.below hal
      have Hb2 : Hid (Below w.heap.size w (wr.alloc (.cells #[.int .i64 x, .int .i64 y, .int .i64 u, .int .i64 t] 43))) := Hb.out.trans (hal.mono Hb.out.size)
      clear hal
      obtain ⟨wb, hwb⟩ : ∃ wb, wb = wr.alloc (.cells #[.int .i64 x, .int .i64 y, .int .i64 u, .int .i64 t] 43) := ⟨_, rfl⟩
      rw [← hwb] at X1 HB1 Hb2
      go_wp2_with fail
      rw [← hwb]
      clear d0 d1 d2 d3 hwb
      have r0 := HB1.out.at0
      have r1 := HB1.out.at1
      have rz := HB1.out.1
      have c0 := X1.out.at0
      have c1 := X1.out.at1
      have c2 := X1.out.at2
      have c3 := X1.out.2 3
      have cz := X1.out.1
      simp at c3
      go_cut [28] (fun q wc => q = .bool (x == f && y == a) ∧ Below wb.heap.size wb wc)
      case first =>
        go_region_with (first
          | (go_at_call 23; refine (implSpotOf _ _ _ _ _).mono ?_; rintro e wP ⟨rfl, hbP0⟩
             have hbP : Below wb.heap.size wb wP := (Below.refl _ _).drew.trans (hbP0.mono (Nat.le_refl _))
             have y0 := (HB1.out.below hbP).at0
             have y1 := (HB1.out.below hbP).at1
             have yz := (HB1.out.below hbP).1))
        all_goals
          go_wp2_with fail
          go_meet
          exact ⟨rfl, hbP⟩
      case rest =>
        obtain ⟨rfl, hwc⟩ := hcut
        have Hwc : Hid (Below w.heap.size w wc) := Hb2.out.trans (hwc.mono Hb2.out.size)
        have HBc : Hid (Box wc w1.heap.size #[.int .i64 f, .int .i64 a]) := HB1.out.below hwc
        have X2 : Hid (Box wc wr.heap.size #[.int .i64 x, .int .i64 y, .int .i64 u, .int .i64 t]) := X1.out.below hwc
        clear hwc r0 r1 rz c0 c1 c2 c3 cz
        by_cases hxy : x = f ∧ y = a
        · obtain ⟨rfl, rfl⟩ := hxy
          have HG : Hid (GuessI p l x y (gs u t)) := .inr ⟨HR.out, .inl ⟨k, ⟨hkl, by rw [Hsn.out], by rw [Hsn.out]⟩, by rw [Hsn.out]⟩⟩
          have c0 := X2.out.at0
          have c1 := X2.out.at1
          have c2 := X2.out.at2
          have c3 := X2.out.2 3
          have cz := X2.out.1
          simp at c3
          rw [show (x == x && y == y) = true by simp]
          go_wp2_with fail
          refine (implCountsOf _ _ _ _ _).mono ?_
          rintro e w5 ⟨rfl, hb5⟩
          have Hb5 : Hid (Below w.heap.size w w5) := Hwc.out.trans (hb5.mono Hwc.out.size)
          clear hb5 c0 c1 c2 c3 cz
          go_wp2_with fail
          refine (implGuessOf _ _ _).mono ?_
          rintro e w6 ⟨rfl, hb6⟩
          have Hb6 : Hid (Below w.heap.size w w6) := Hb5.out.trans (hb6.mono Hb5.out.size)
          clear hb6
          obtain ⟨n, hn⟩ : ∃ n, n = gs u t := ⟨_, rfl⟩
          rw [← hn] at HG ⊢
          clear hn
          go_wp2_with fail
          go_ret
          exact ⟨n, rfl, Hb6.out, HG.out⟩
        · have hx' : (x == f && y == a) = false := by
            rw [Bool.eq_false_iff]
            intro h
            simp at h
            exact hxy h
          rw [hx']
          have HN : Hid (¬ HereS l f a k) := fun h => by
            have h1 := h.2.1
            have h2 := h.2.2
            rw [Hsn.out] at h1 h2
            exact hxy ⟨h1, h2⟩
          go_wp2_with fail
          go_roundg (gk - 1)
          case measure => omega
          case rel => exact ⟨k + 1, by omega, by go_num, by omega, HBc.out, Hwc.out, fun j hj => if e : j = k then by subst e; exact HN.out else Hall.out j (by omega)⟩
end Go.Proofs.YtjifpeiilcneeaaDoor
