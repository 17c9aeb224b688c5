/- spec.l07Guess, Guess. -/
import Derived.Test.YtjifpeiilcneeaaDoorSeenS
import Derived.Test.YtjifpeiilcneeaaDoorGuessP
namespace Go.Proofs.YtjifpeiilcneeaaDoor
open Go.RowKit

def GuToldS (P : Int → Prop) (w w' : World) (e : Ending) : Prop := ∃ n : Int, e = .returned (.int .i64 n) ∧ Below w.heap.size w w' ∧ P n

/-- what l07Guess tells -/
def GuL (l : List SnM) (f a n : Int) : Prop := (∃ k, HereS l f a k ∧ n = gs (snAt l k).went (snAt l k).past) ∨ ((∀ k, HereS l f a k → gs (snAt l k).went (snAt l k).past = 0) ∧ n = 0)

set_option maxRecDepth 100000 in
set_option maxHeartbeats 6400000 in
theorem specL07 (vl : Value) (l : List SnM) (f a : Int) (w : World) (hs : SnRow 0 w vl l) :
    Calls Tryd.prog 29 #[vl, .int .i64 f, .int .i64 a] w fun e w' => GuToldS (GuL l f a) w w' e := by
  have Hs : Hid (SnRow 0 w vl l) := hs
  have hll := hs.len
  obtain ⟨A1, a1, rfl⟩ := hs.form
  clear hs
  go_enter Tryd.func29, Tryd.ntmps29
  go_wp2_with fail
  go_loopg [7] (l.length) (fun gg i wr => ∃ k : Nat, k ≤ l.length ∧ i = .int .i64 k ∧ l.length ≤ k + gg ∧ wr = w ∧ ∀ j, j < k → HereS l f a j → gs (snAt l j).went (snAt l j).past = 0)
  case atStart => exact ⟨0, Nat.zero_le _, rfl, by omega, rfl, fun j h => by omega⟩
  case round =>
    obtain ⟨k, hk, rfl, hkg, hw, hall⟩ := hrel
    subst hw
    have Hall : Hid (∀ j, j < k → HereS l f a j → gs (snAt l j).went (snAt l j).past = 0) := hall
    clear hall
    by_cases hkl : k < l.length
    case neg =>
      have HT : Hid (GuL l f a 0) := .inr ⟨fun j hj => Hall.out j (by have := hj.1; omega) hj, rfl⟩
      go_wp2_with fail
      go_ret
      exact ⟨0, rfl, Below.refl _ _, HT.out⟩
    obtain ⟨b0, off0, rfl, hlt, d0, d1, d2, d3⟩ := Hs.out.at k hkl
    obtain ⟨s, hs⟩ : ∃ s, s = l[k] := ⟨_, rfl⟩
    have Hsn : Hid (snAt l k = s) := by show snAt l k = s; rw [snAt_get l k hkl, hs]
    rw [← hs] at d0 d1 d2 d3
    clear hs
    obtain ⟨x, y, u, t⟩ := s
    simp only at d0 d1 d2 d3
    by_cases hx : x = f
    case neg =>
      have hx' : (x == f) = false := by simpa using hx
      have HN : Hid (HereS l f a k → gs (snAt l k).went (snAt l k).past = 0) := fun h => by have := h.2.1; rw [Hsn.out] at this; exact absurd this hx
      go_wp2_with fail
      go_roundg (gk - 1)
      case measure => omega
      case rel => exact ⟨k + 1, by omega, by go_num, by omega, rfl, fun j hj => if e : j = k then by subst e; exact HN.out else Hall.out j (by omega)⟩
    by_cases hy : y = a
    case neg =>
      have hy' : (y == a) = false := by simpa using hy
      subst hx
      have HN : Hid (HereS l x a k → gs (snAt l k).went (snAt l k).past = 0) := fun h => by have := h.2.2; rw [Hsn.out] at this; exact absurd this hy
      go_wp2_with fail
      go_roundg (gk - 1)
      case measure => omega
      case rel => exact ⟨k + 1, by omega, by go_num, by omega, rfl, fun j hj => if e : j = k then by subst e; exact HN.out else Hall.out j (by omega)⟩
    subst hx hy
    have HG : Hid (∀ n, n = gs u t → GuL l x y n) := fun n hn => .inl ⟨k, ⟨hkl, by rw [Hsn.out], by rw [Hsn.out]⟩, by rw [Hsn.out]; exact hn⟩
    have hkl' : (k : Int) < l.length := by omega
    by_cases h0 : u = 0
    · subst h0
      by_cases h2 : 2 ≤ t
      · have HZ : Hid (GuL l x y 1) := HG.out 1 (by unfold gs; rw [if_pos (by omega)])
        go_wp2_with fail
        go_ret
        exact ⟨1, rfl, Below.refl _ _, HZ.out⟩
      · have HN : Hid (HereS l x y k → gs (snAt l k).went (snAt l k).past = 0) := fun _ => by rw [Hsn.out]; simp only; unfold gs; rw [if_neg (by omega), if_neg (by omega)]
        by_cases h3 : t = 0
        · subst h3
          go_wp2_with fail
          go_roundg (gk - 1)
          case measure => omega
          case rel => exact ⟨k + 1, by omega, by go_num, by omega, rfl, fun j hj => if e : j = k then by subst e; exact HN.out else Hall.out j (by omega)⟩
        · have h3' : (t == 0) = false := by simpa using h3
          go_wp2_with fail
          go_roundg (gk - 1)
          case measure => omega
          case rel => exact ⟨k + 1, by omega, by go_num, by omega, rfl, fun j hj => if e : j = k then by subst e; exact HN.out else Hall.out j (by omega)⟩
    · have h0' : (u == 0) = false := by simpa using h0
      by_cases h3 : t = 0
      · subst h3
        by_cases h2 : 2 ≤ u
        · have HZ : Hid (GuL l x y 2) := HG.out 2 (by unfold gs; rw [if_neg (by omega), if_pos (by omega)])
          go_wp2_with fail
          go_ret
          exact ⟨2, rfl, Below.refl _ _, HZ.out⟩
        · have HN : Hid (HereS l x y k → gs (snAt l k).went (snAt l k).past = 0) := fun _ => by rw [Hsn.out]; simp only; unfold gs; rw [if_neg (by omega), if_neg (by omega)]
          go_wp2_with fail
          go_roundg (gk - 1)
          case measure => omega
          case rel => exact ⟨k + 1, by omega, by go_num, by omega, rfl, fun j hj => if e : j = k then by subst e; exact HN.out else Hall.out j (by omega)⟩
      · have h3' : (t == 0) = false := by simpa using h3
        have HN : Hid (HereS l x y k → gs (snAt l k).went (snAt l k).past = 0) := fun _ => by rw [Hsn.out]; simp only; unfold gs; rw [if_neg (by omega), if_neg (by omega)]
        go_wp2_with fail
        go_roundg (gk - 1)
        case measure => omega
        case rel => exact ⟨k + 1, by omega, by go_num, by omega, rfl, fun j hj => if e : j = k then by subst e; exact HN.out else Hall.out j (by omega)⟩

set_option maxRecDepth 100000 in
set_option maxHeartbeats 6400000 in
theorem specGuess (vp vl : Value) (p : List FnM) (l : List SnM) (f a : Int) (w : World) (hr : FnRow 0 w vp p) (hp : ∀ g ∈ p, g.ok) (hs : SnRow 0 w vl l) (hok : ∀ s ∈ l, s.ok) :
    Calls Tryd.prog 13 #[.agg #[vp], vl, .int .i64 f, .int .i64 a] w fun e w' => GuToldS (GuessS p l f a) w w' e := by
  have Hr : Hid (FnRow 0 w vp p) := hr
  have Hs : Hid (SnRow 0 w vl l) := hs
  obtain ⟨A, cap, rfl⟩ := hr.form
  obtain ⟨A1, a1, rfl⟩ := hs.form
  obtain ⟨wa, hwa⟩ : ∃ wa, wa = w.alloc (.cells #[.slice A p.length cap] 31) := ⟨_, rfl⟩
  have hal : Below w.heap.size w wa := by rw [hwa]; exact (Below.refl _ _).alloc (Nat.le_refl _) _
  have Hal : Hid (Below w.heap.size w wa) := hal
  have X0 : Hid (Box wa w.heap.size #[.slice A p.length cap]) := by rw [hwa]; exact box_new w _ _
  have hsn := specSeen (.slice A p.length cap) (.slice A1 l.length a1) p l wa (hr.below hal) hp (hs.below hal) hok
  have Hsn : Hid (Calls Tryd.prog 7 #[.agg #[.slice A p.length cap], .slice A1 l.length a1] wa fun e w' => SnToldS (SnRight p l) wa w' e) := hsn
  clear hr hs hsn hal hp hok
  go_enter Tryd.func13, Tryd.ntmps13
  go_wp2_with fail
  rw [← hwa]
  clear hwa
  refine Calls.mono (R := fun e w' => SnToldS (SnRight p l) wa w' e) Hsn.out ?_
  rintro e w1 ⟨b, rfl, hb1, hiff⟩
  have Hb1 : Hid (Below w.heap.size w w1) := Hal.out.trans (hb1.mono Hal.out.size)
  have X1 : Hid (Box w1 w.heap.size #[.slice A p.length cap]) := X0.out.below hb1
  clear hb1 Hsn X0
  cases b with
  | false =>
    have HF : Hid (GuessS p l f a 0) := .inl ⟨fun h => by have := hiff.2 h; simp at this, rfl⟩
    clear hiff
    go_wp2_with fail
    go_ret
    exact ⟨0, rfl, Hb1.out, HF.out⟩
  | true =>
    have HR : Hid (SnRight p l) := hiff.1 rfl
    clear hiff
    have c0 := X1.out.at0
    have cz := X1.out.1
    obtain ⟨bj, hbj⟩ : ∃ bj, bj = decide (JzAt p f a) := ⟨_, rfl⟩
    have hJ := specJz (.slice A p.length cap) p f a w1 (Hr.out.below Hb1.out)
    rw [← hbj] at hJ
    have Hbj : Hid (bj = decide (JzAt p f a)) := hbj
    have HJ : Hid (Calls Tryd.prog 17 #[.agg #[.slice A p.length cap], .int .i64 f, .int .i64 a] w1 fun e w' => e = .returned (.bool bj) ∧ Below w1.heap.size w1 w') := hJ
    clear hJ hbj
    go_wp2_with fail
    refine HJ.out.mono ?_
    rintro e w2 ⟨rfl, hb2⟩
    have Hb2 : Hid (Below w.heap.size w w2) := Hb1.out.trans (hb2.mono Hb1.out.size)
    clear hb2 HJ c0 cz
    cases bj with
    | false =>
      have HF : Hid (GuessS p l f a 0) := .inr (.inl ⟨HR.out, of_decide_eq_false Hbj.out.symm, rfl⟩)
      go_wp2_with fail
      go_ret
      exact ⟨0, rfl, Hb2.out, HF.out⟩
    | true =>
      have hG := specL07 (.slice A1 l.length a1) l f a w2 (Hs.out.below Hb2.out)
      have HG : Hid (Calls Tryd.prog 29 #[.slice A1 l.length a1, .int .i64 f, .int .i64 a] w2 fun e w' => GuToldS (GuL l f a) w2 w' e) := hG
      clear hG
      go_wp2_with fail
      refine Calls.mono (R := fun e w' => GuToldS (GuL l f a) w2 w' e) HG.out ?_
      rintro e w3 ⟨n, rfl, hb3, hn⟩
      have Hb3 : Hid (Below w.heap.size w w3) := Hb2.out.trans (hb3.mono Hb2.out.size)
      have HN : Hid (GuessS p l f a n) := .inr (.inr ⟨HR.out, hn⟩)
      clear hb3 hn HG
      go_wp2_with fail
      go_ret
      exact ⟨n, rfl, Hb3.out, HN.out⟩
end Go.Proofs.YtjifpeiilcneeaaDoor
