/- laws.szProgram and what it calls. -/
import Derived.Test.YtijgonjnmibifaaDoorPrg
namespace Go.Proofs.YtijgonjnmibifaaDoor
open Go.RowKit

/-- what is left, or -1 -/
def less (left : Int) (n : Nat) : Int := if (n : Int) ≤ left then left - n else -1

theorem szIns {B : Nat} (v : Value) (c : List (Int × Int)) (left : Int) (w : World) (hr : InsRow B w v c) (h0 : 0 ≤ left) (h1 : left ≤ 1048576) :
    Calls Tryd.prog 99 #[v, .int .i64 left] w fun e w' => (e = .returned (.int .i64 (less left c.length))) ∧ w' = w := by
  obtain ⟨A, cap, rfl, hn, hc⟩ := hr
  clear hc
  unfold less
  by_cases hl : (c.length : Int) ≤ left
  · rw [if_pos hl]
    go_enter Tryd.func99, Tryd.ntmps99
    go_wp2
    go_ret
    exact ⟨rfl, rfl⟩
  · rw [if_neg hl]
    go_enter Tryd.func99, Tryd.ntmps99
    go_wp2
    go_ret
    exact ⟨rfl, rfl⟩

theorem szFn {B : Nat} (x y : Int) (v : Value) (c : List (Int × Int)) (left : Int) (w : World) (hr : InsRow B w v c) (h0 : 0 ≤ left) (h1 : left ≤ 1048576) :
    Calls Tryd.prog 59 #[.agg #[.int .i64 x, .int .i64 y, v], .int .i64 left] w fun e w' => (e = .returned (.int .i64 (less left c.length))) ∧ Below w.heap.size w w' := by
  have Hr : Hid (InsRow B w v c) := hr
  obtain ⟨A, cap, rfl, hn, hc⟩ := hr
  clear hc
  go_enter Tryd.func59, Tryd.ntmps59
  go_wp2_with fail
  refine (szIns _ c left _ (Hr.out.below ((Below.refl _ _).alloc (Nat.le_refl _) _)) h0 h1).mono ?_
  rintro e w1 ⟨rfl, h⟩
  subst w1
  have hq : less left c.length = -1 ∨ 0 ≤ less left c.length := by unfold less; split <;> omega
  obtain ⟨q, Hq⟩ : ∃ q, Hid (q = less left c.length) := ⟨_, rfl⟩
  rw [← Hq.out] at hq ⊢
  rcases hq with rfl | hq
  · go_wp2_with fail
    go_ret
    exact ⟨by rw [← Hq.out]; rfl, (Below.refl _ _).alloc (Nat.le_refl _) _⟩
  · go_wp2_with fail
    go_ret
    exact ⟨by rw [← Hq.out]; rfl, (Below.refl _ _).alloc (Nat.le_refl _) _⟩

theorem sum_take_succ (l : List FnM) (k : Nat) (h : k < l.length) : ((l.take (k + 1)).map fun f => f.code.length).sum = ((l.take k).map fun f => f.code.length).sum + l[k].code.length := by
  rw [List.take_succ_eq_append_getElem h, List.map_append, List.sum_append]
  simp

theorem sum_take_le (l : List FnM) (k : Nat) : ((l.take k).map fun f => f.code.length).sum ≤ (l.map fun f => f.code.length).sum := by
  conv => rhs; rw [← List.take_append_drop k l, List.map_append, List.sum_append]
  omega

set_option maxHeartbeats 800000 in
theorem szFns {B : Nat} (v : Value) (p : List FnM) (left : Int) (w : World) (hr : FnRow B w v p) (h0 : 0 ≤ left) (h1 : left ≤ 1048576) :
    Calls Tryd.prog 29 #[v, .int .i64 left] w fun e w' => (e = .returned (.int .i64 (less left (bulk p)))) ∧ Below w.heap.size w w' := by
  have Hr : Hid (FnRow B w v p) := hr
  obtain ⟨A, cap, rfl, hn, hc⟩ := hr
  clear hc
  by_cases hl : (p.length : Int) ≤ left
  · go_enter Tryd.func29, Tryd.ntmps29
    go_wp2
    go_loopw [1, 5] (fun l i wr => ∃ (k : Nat), k ≤ p.length ∧ i = .int .i64 k ∧ ∃ m : Int, l = .int .i64 m ∧ m = left - p.length - ((p.take k).map fun f => f.code.length).sum ∧ 0 ≤ m ∧ Below w.heap.size w wr)
      (fun _ i _ => p.length - (intOf i).toNat)
    case atStart => exact ⟨0, Nat.zero_le _, rfl, _, rfl, by simp, by omega, Below.refl _ _⟩
    case round =>
      obtain ⟨k, hk, rfl, m, rfl, hm, hm0, hb⟩ := hrel
      have Hb : Hid (Below w.heap.size w wr) := hb
      have Hm : Hid (m = left - p.length - ((p.take k).map fun f => f.code.length).sum) := hm
      clear hb hm
      by_cases hkl : k < p.length
      · obtain ⟨A', cap', he, _, hc⟩ := Hr.out.below Hb.out
        simp only [Value.slice.injEq] at he
        obtain ⟨rfl, _, rfl⟩ := he
        obtain ⟨b, off, x, rfl, _, hlt, c0, c1, c2, hx⟩ := hc k hkl
        have Hx : Hid (InsRow B wr x p[k].code) := hx
        clear hc hx
        go_wp2_with fail
        refine (szFn _ _ x _ m _ Hx.out hm0 (by have := Hm.out; omega)).mono ?_
        rintro e w1 ⟨rfl, hb1⟩
        have Hb1 : Hid (Below w.heap.size w w1) := Hb.out.trans (hb1.mono Hb.out.size)
        clear hb1
        by_cases hq : (p[k].code.length : Int) ≤ m
        · rw [show less m p[k].code.length = m - p[k].code.length by unfold less; rw [if_pos hq]]
          go_wp2_with fail
          go_roundw
          case rel => exact ⟨k + 1, by omega, by go_num, _, rfl, by rw [sum_take_succ p k hkl]; have := Hm.out; omega, by omega, Hb1.out⟩
          case measure => simp [intOf]; omega
        · rw [show less m p[k].code.length = -1 by unfold less; rw [if_neg hq]]
          go_wp2_with fail
          go_ret
          refine ⟨?_, Hb1.out⟩
          unfold less bulk
          rw [if_neg]
          · rfl
          · have h1 := sum_take_succ p k hkl
            have h2 := sum_take_le p (k + 1)
            have := Hm.out
            omega
      · go_wp2_with fail
        go_ret
        refine ⟨?_, Hb.out⟩
        have h3 := Hm.out
        rw [List.take_of_length_le (by omega)] at h3
        unfold less bulk
        rw [if_pos (by omega)]
        show Ending.returned (.int .i64 m) = _
        rw [h3]
        congr 2
        omega
  · have hL : less left (bulk p) = -1 := by unfold less bulk; rw [if_neg (by omega)]
    rw [hL]
    go_enter Tryd.func29, Tryd.ntmps29
    go_wp2
    go_ret
    exact ⟨rfl, Below.refl _ _⟩

theorem szPrg {B : Nat} (v : Value) (p : List FnM) (left : Int) (w : World) (hr : FnRow B w v p) (h0 : 0 ≤ left) (h1 : left ≤ 1048576) :
    Calls Tryd.prog 10 #[.agg #[v], .int .i64 left] w fun e w' => (e = .returned (.int .i64 (less left (bulk p)))) ∧ Below w.heap.size w w' := by
  have Hr : Hid (FnRow B w v p) := hr
  obtain ⟨A, cap, rfl, hn, hc⟩ := hr
  clear hc
  go_enter Tryd.func10, Tryd.ntmps10
  go_wp2_with fail
  refine (szFns _ p left _ (Hr.out.below ((Below.refl _ _).alloc (Nat.le_refl _) _)) h0 h1).mono ?_
  rintro e w1 ⟨rfl, hb1⟩
  have Hb1 : Hid (Below w.heap.size w w1) := ((Below.refl _ _).alloc (Nat.le_refl _) _).trans (hb1.mono (by simp))
  clear hb1
  have hq : less left (bulk p) = -1 ∨ 0 ≤ less left (bulk p) := by unfold less; split <;> omega
  obtain ⟨q, Hq⟩ : ∃ q, Hid (q = less left (bulk p)) := ⟨_, rfl⟩
  rw [← Hq.out] at hq ⊢
  rcases hq with rfl | hq
  · go_wp2_with fail
    go_ret
    exact ⟨by rw [← Hq.out]; rfl, Hb1.out⟩
  · go_wp2_with fail
    go_ret
    exact ⟨by rw [← Hq.out]; rfl, Hb1.out⟩
end Go.Proofs.YtijgonjnmibifaaDoor
