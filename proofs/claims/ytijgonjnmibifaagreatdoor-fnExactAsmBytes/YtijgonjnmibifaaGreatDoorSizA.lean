/- laws.szProgram and what it calls. laws.szState and what it calls. laws.szAsm and what it calls. -/
import Derived.Test.YtijgonjnmibifaaGreatDoorPrg
import Derived.Test.YtijgonjnmibifaaGreatDoorSt
import Derived.Test.YtijgonjnmibifaaGreatDoorAm
namespace Go.Proofs.YtijgonjnmibifaaGreatDoor
open Go.RowKit

/-- what is left, or -1 -/
def less (left : Int) (n : Nat) : Int := if (n : Int) ≤ left then left - n else -1

theorem szIns {B : Nat} (v : Value) (c : List (Int × Int)) (left : Int) (w : World) (hr : InsRow B w v c) (h0 : 0 ≤ left) (h1 : left ≤ 1048576) :
    Calls Tryz.prog 79 #[v, .int .i64 left] w fun e w' => (e = .returned (.int .i64 (less left c.length))) ∧ w' = w := by
  obtain ⟨A, cap, rfl, hn, hc⟩ := hr
  clear hc
  unfold less
  by_cases hl : (c.length : Int) ≤ left
  · rw [if_pos hl]
    go_enter Tryz.func79, Tryz.ntmps79
    go_wp2
    go_ret
    exact ⟨rfl, rfl⟩
  · rw [if_neg hl]
    go_enter Tryz.func79, Tryz.ntmps79
    go_wp2
    go_ret
    exact ⟨rfl, rfl⟩

theorem szFn {B : Nat} (x y : Int) (v : Value) (c : List (Int × Int)) (left : Int) (w : World) (hr : InsRow B w v c) (h0 : 0 ≤ left) (h1 : left ≤ 1048576) :
    Calls Tryz.prog 46 #[.agg #[.int .i64 x, .int .i64 y, v], .int .i64 left] w fun e w' => (e = .returned (.int .i64 (less left c.length))) ∧ Below w.heap.size w w' := by
  have Hr : Hid (InsRow B w v c) := hr
  obtain ⟨A, cap, rfl, hn, hc⟩ := hr
  clear hc
  go_enter Tryz.func46, Tryz.ntmps46
  go_wp2_with fail
  refine (szIns _ c left _ (Hr.out.below ((Below.refl _ _).alloc (Nat.le_refl _) _)) h0 h1).mono ?_
  rintro e w1 ⟨rfl, h⟩
  subst w1
  have hq : less left c.length = -1 ∨ 0 ≤ less left c.length := by unfold less; split <;> omega
  obtain ⟨q, Hq⟩ : ∃ q, Hid (q = less left c.length) := ⟨_, rfl⟩
  rw [← Hq.out] at hq ⊢
  rcases hq with rfl | hq
  · go_wp2_with fail
    go_ret
    exact ⟨by rw [← Hq.out]; rfl, (Below.refl _ _).alloc (Nat.le_refl _) _⟩
  · go_wp2_with fail
    go_ret
    exact ⟨by rw [← Hq.out]; rfl, (Below.refl _ _).alloc (Nat.le_refl _) _⟩

theorem sum_take_succ (l : List FnM) (k : Nat) (h : k < l.length) : ((l.take (k + 1)).map fun f => f.code.length).sum = ((l.take k).map fun f => f.code.length).sum + l[k].code.length := by
  rw [List.take_succ_eq_append_getElem h, List.map_append, List.sum_append]
  simp

theorem sum_take_le (l : List FnM) (k : Nat) : ((l.take k).map fun f => f.code.length).sum ≤ (l.map fun f => f.code.length).sum := by
  conv => rhs; rw [← List.take_append_drop k l, List.map_append, List.sum_append]
  omega

set_option maxHeartbeats 800000 in
theorem szFns {B : Nat} (v : Value) (p : List FnM) (left : Int) (w : World) (hr : FnRow B w v p) (h0 : 0 ≤ left) (h1 : left ≤ 1048576) :
    Calls Tryz.prog 19 #[v, .int .i64 left] w fun e w' => (e = .returned (.int .i64 (less left (bulk p)))) ∧ Below w.heap.size w w' := by
  have Hr : Hid (FnRow B w v p) := hr
  obtain ⟨A, cap, rfl, hn, hc⟩ := hr
  clear hc
  by_cases hl : (p.length : Int) ≤ left
  · go_enter Tryz.func19, Tryz.ntmps19
    go_wp2
    go_loopw [1, 5] (fun l i wr => ∃ (k : Nat), k ≤ p.length ∧ i = .int .i64 k ∧ ∃ m : Int, l = .int .i64 m ∧ m = left - p.length - ((p.take k).map fun f => f.code.length).sum ∧ 0 ≤ m ∧ Below w.heap.size w wr)
      (fun _ i _ => p.length - (intOf i).toNat)
    case atStart => exact ⟨0, Nat.zero_le _, rfl, _, rfl, by simp, by omega, Below.refl _ _⟩
    case round =>
      obtain ⟨k, hk, rfl, m, rfl, hm, hm0, hb⟩ := hrel
      have Hb : Hid (Below w.heap.size w wr) := hb
      have Hm : Hid (m = left - p.length - ((p.take k).map fun f => f.code.length).sum) := hm
      clear hb hm
      by_cases hkl : k < p.length
      · obtain ⟨A', cap', he, _, hc⟩ := Hr.out.below Hb.out
        simp only [Value.slice.injEq] at he
        obtain ⟨rfl, _, rfl⟩ := he
        obtain ⟨b, off, x, rfl, _, hlt, c0, c1, c2, hx⟩ := hc k hkl
        have Hx : Hid (InsRow B wr x p[k].code) := hx
        clear hc hx
        go_wp2_with fail
        refine (szFn _ _ x _ m _ Hx.out hm0 (by have := Hm.out; omega)).mono ?_
        rintro e w1 ⟨rfl, hb1⟩
        have Hb1 : Hid (Below w.heap.size w w1) := Hb.out.trans (hb1.mono Hb.out.size)
        clear hb1
        by_cases hq : (p[k].code.length : Int) ≤ m
        · rw [show less m p[k].code.length = m - p[k].code.length by unfold less; rw [if_pos hq]]
          go_wp2_with fail
          go_roundw
          case rel => exact ⟨k + 1, by omega, by go_num, _, rfl, by rw [sum_take_succ p k hkl]; have := Hm.out; omega, by omega, Hb1.out⟩
          case measure => simp [intOf]; omega
        · rw [show less m p[k].code.length = -1 by unfold less; rw [if_neg hq]]
          go_wp2_with fail
          go_ret
          refine ⟨?_, Hb1.out⟩
          unfold less bulk
          rw [if_neg]
          · rfl
          · have h1 := sum_take_succ p k hkl
            have h2 := sum_take_le p (k + 1)
            have := Hm.out
            omega
      · go_wp2_with fail
        go_ret
        refine ⟨?_, Hb.out⟩
        have h3 := Hm.out
        rw [List.take_of_length_le (by omega)] at h3
        unfold less bulk
        rw [if_pos (by omega)]
        show Ending.returned (.int .i64 m) = _
        rw [h3]
        congr 2
        omega
  · have hL : less left (bulk p) = -1 := by unfold less bulk; rw [if_neg (by omega)]
    rw [hL]
    go_enter Tryz.func19, Tryz.ntmps19
    go_wp2
    go_ret
    exact ⟨rfl, Below.refl _ _⟩

theorem szPrg {B : Nat} (v : Value) (p : List FnM) (left : Int) (w : World) (hr : FnRow B w v p) (h0 : 0 ≤ left) (h1 : left ≤ 1048576) :
    Calls Tryz.prog 5 #[.agg #[v], .int .i64 left] w fun e w' => (e = .returned (.int .i64 (less left (bulk p)))) ∧ Below w.heap.size w w' := by
  have Hr : Hid (FnRow B w v p) := hr
  obtain ⟨A, cap, rfl, hn, hc⟩ := hr
  clear hc
  go_enter Tryz.func5, Tryz.ntmps5
  go_wp2_with fail
  refine (szFns _ p left _ (Hr.out.below ((Below.refl _ _).alloc (Nat.le_refl _) _)) h0 h1).mono ?_
  rintro e w1 ⟨rfl, hb1⟩
  have Hb1 : Hid (Below w.heap.size w w1) := ((Below.refl _ _).alloc (Nat.le_refl _) _).trans (hb1.mono (by simp))
  clear hb1
  have hq : less left (bulk p) = -1 ∨ 0 ≤ less left (bulk p) := by unfold less; split <;> omega
  obtain ⟨q, Hq⟩ : ∃ q, Hid (q = less left (bulk p)) := ⟨_, rfl⟩
  rw [← Hq.out] at hq ⊢
  rcases hq with rfl | hq
  · go_wp2_with fail
    go_ret
    exact ⟨by rw [← Hq.out]; rfl, Hb1.out⟩
  · go_wp2_with fail
    go_ret
    exact ⟨by rw [← Hq.out]; rfl, Hb1.out⟩
end Go.Proofs.YtijgonjnmibifaaGreatDoor

namespace Go.Proofs.YtijgonjnmibifaaGreatDoor
open Go.RowKit

theorem less_less (left : Int) (a b : Nat) (h : 0 ≤ less left a) : less (less left a) b = less left (a + b) := by
  unfold less at h ⊢
  by_cases h1 : (a : Int) ≤ left
  · rw [if_pos h1]
    by_cases h2 : (b : Int) ≤ left - a
    · rw [if_pos h2, if_pos (by omega)]; omega
    · rw [if_neg h2, if_neg (by omega)]
  · rw [if_neg h1] at h; omega
theorem less_neg (left : Int) (a b : Nat) (h : less left a < 0) : less left (a + b) = -1 := by
  unfold less at h ⊢
  by_cases h1 : (a : Int) ≤ left
  · rw [if_pos h1] at h; omega
  · rw [if_neg (by omega)]
theorem less_two (left : Int) (n : Nat) : less left n = -1 ∨ (0 ≤ less left n ∧ less left n ≤ left) := by unfold less; split <;> omega

end Go.Proofs.YtijgonjnmibifaaGreatDoor

namespace Go.Proofs.YtijgonjnmibifaaGreatDoor
open Go.RowKit

theorem szMovs {B : Nat} (v : Value) (c : List MvM) (left : Int) (w : World) (hr : MvRow B w v c) (h0 : 0 ≤ left) (h1 : left ≤ 1048576) :
    Calls Tryz.prog 80 #[v, .int .i64 left] w fun e w' => (e = .returned (.int .i64 (less left c.length))) ∧ w' = w := by
  obtain ⟨A, cap, rfl, hn, hc⟩ := hr
  clear hc
  unfold less
  by_cases hl : (c.length : Int) ≤ left
  · rw [if_pos hl]
    go_enter Tryz.func80, Tryz.ntmps80
    go_wp2
    go_ret
    exact ⟨rfl, rfl⟩
  · rw [if_neg hl]
    go_enter Tryz.func80, Tryz.ntmps80
    go_wp2
    go_ret
    exact ⟨rfl, rfl⟩

theorem szVals {B : Nat} (v : Value) (c : List (Int × Int)) (left : Int) (w : World) (hr : InsRow B w v c) (h0 : 0 ≤ left) (h1 : left ≤ 1048576) :
    Calls Tryz.prog 48 #[v, .int .i64 left] w fun e w' => (e = .returned (.int .i64 (less left c.length))) ∧ w' = w := by
  obtain ⟨A, cap, rfl, hn, hc⟩ := hr
  clear hc
  unfold less
  by_cases hl : (c.length : Int) ≤ left
  · rw [if_pos hl]
    go_enter Tryz.func48, Tryz.ntmps48
    go_wp2
    go_ret
    exact ⟨rfl, rfl⟩
  · rw [if_neg hl]
    go_enter Tryz.func48, Tryz.ntmps48
    go_wp2
    go_ret
    exact ⟨rfl, rfl⟩

set_option maxHeartbeats 800000 in
theorem szAi {B : Nat} (x y z : Int) (v u : Value) (l : List MvM) (t : List (Int × Int)) (left : Int) (w : World) (hr : MvRow B w v l) (hu : InsRow B w u t) (h0 : 0 ≤ left) (h1 : left ≤ 1048576) :
    Calls Tryz.prog 47 #[.agg #[v, .int .i64 x, .int .i64 y, u, .int .i64 z], .int .i64 left] w fun e w' => (e = .returned (.int .i64 (less left (l.length + t.length)))) ∧ Below w.heap.size w w' := by
  have Hr : Hid (MvRow B w v l) := hr
  have Hu : Hid (InsRow B w u t) := hu
  obtain ⟨A, cap, rfl⟩ := hr.form
  obtain ⟨D, dap, rfl⟩ := hu.form
  clear hr hu
  go_enter Tryz.func47, Tryz.ntmps47
  go_wp2_with fail
  refine (szMovs _ l left _ (Hr.out.below ((Below.refl _ _).alloc (Nat.le_refl _) _)) h0 h1).mono ?_
  rintro e w1 ⟨rfl, h⟩
  subst w1
  have hq := less_two left l.length
  obtain ⟨q, Hq⟩ : ∃ q, Hid (q = less left l.length) := ⟨_, rfl⟩
  rw [← Hq.out] at hq ⊢
  rcases hq with rfl | ⟨hq, hq'⟩
  · have He : Hid (less left (l.length + t.length) = -1) := less_neg _ _ _ (by rw [← Hq.out]; omega)
    go_wp2_with fail
    go_ret
    exact ⟨by rw [He.out]; rfl, (Below.refl _ _).alloc (Nat.le_refl _) _⟩
  · go_wp2_with fail
    refine (szVals _ t q _ (Hu.out.below ((Below.refl _ _).alloc (Nat.le_refl _) _)) hq (by omega)).mono ?_
    rintro e w1 ⟨rfl, h⟩
    subst w1
    have He : Hid (less q t.length = less left (l.length + t.length)) := by show less q t.length = _; rw [Hq.out]; exact less_less _ _ _ (by rw [← Hq.out]; exact hq)
    have hp := less_two q t.length
    obtain ⟨p, Hp⟩ : ∃ p, Hid (p = less q t.length) := ⟨_, rfl⟩
    rw [← Hp.out] at hp ⊢
    rcases hp with rfl | ⟨hp, hp'⟩
    · go_wp2_with fail
      go_ret
      exact ⟨by rw [← He.out, ← Hp.out]; rfl, (Below.refl _ _).alloc (Nat.le_refl _) _⟩
    · go_wp2_with fail
      go_ret
      exact ⟨by rw [← He.out, ← Hp.out]; rfl, (Below.refl _ _).alloc (Nat.le_refl _) _⟩

set_option maxHeartbeats 800000 in
theorem szAis {B : Nat} (v : Value) (p : List AiM) (left : Int) (w : World) (hr : AiRow B w v p) (h0 : 0 ≤ left) (h1 : left ≤ 1048576) :
    Calls Tryz.prog 20 #[v, .int .i64 left] w fun e w' => (e = .returned (.int .i64 (less left (bulkA p)))) ∧ Below w.heap.size w w' := by
  have Hr : Hid (AiRow B w v p) := hr
  obtain ⟨A, cap, rfl, hn, hc⟩ := hr
  clear hc
  by_cases hl : (p.length : Int) ≤ left
  · go_enter Tryz.func20, Tryz.ntmps20
    go_wp2
    go_loopw [1, 5] (fun l i wr => ∃ (k : Nat), k ≤ p.length ∧ i = .int .i64 k ∧ ∃ m : Int, l = .int .i64 m ∧ m = left - p.length - ((p.take k).map AiM.bulk).sum ∧ 0 ≤ m ∧ Below w.heap.size w wr)
      (fun _ i _ => p.length - (intOf i).toNat)
    case atStart => exact ⟨0, Nat.zero_le _, rfl, _, rfl, by simp, by omega, Below.refl _ _⟩
    case round =>
      obtain ⟨k, hk, rfl, m, rfl, hm, hm0, hb⟩ := hrel
      have Hb : Hid (Below w.heap.size w wr) := hb
      have Hm : Hid (m = left - p.length - ((p.take k).map AiM.bulk).sum) := hm
      clear hb hm
      by_cases hkl : k < p.length
      · obtain ⟨b, off, x, y, rfl, hlt, c0, c1, c2, c3, c4, hx, hy⟩ := (Hr.out.below Hb.out).at k hkl
        have Hx : Hid (MvRow B wr x p[k].pre) := hx
        have Hy : Hid (InsRow B wr y p[k].l) := hy
        clear hx hy
        go_wp2_with fail
        refine (szAi _ _ _ x y _ _ m _ Hx.out Hy.out hm0 (by have := Hm.out; omega)).mono ?_
        rintro e w1 ⟨rfl, hb1⟩
        have Hb1 : Hid (Below w.heap.size w w1) := Hb.out.trans (hb1.mono Hb.out.size)
        clear hb1
        have hsu := sum_succ AiM.bulk p k hkl
        have hpa := sum_part AiM.bulk p (k + 1)
        rw [show AiM.bulk p[k] = p[k].pre.length + p[k].l.length from rfl] at hsu
        have Hsu : Hid (((p.take (k + 1)).map AiM.bulk).sum = ((p.take k).map AiM.bulk).sum + (p[k].pre.length + p[k].l.length)) := hsu
        have Hpa : Hid (((p.take (k + 1)).map AiM.bulk).sum ≤ (p.map AiM.bulk).sum) := hpa
        clear hsu hpa
        by_cases hq : ((p[k].pre.length + p[k].l.length : Nat) : Int) ≤ m
        · rw [show less m (p[k].pre.length + p[k].l.length) = m - (p[k].pre.length + p[k].l.length : Nat) by unfold less; rw [if_pos hq]]
          go_wp2_with fail
          go_roundw
          case rel => exact ⟨k + 1, by omega, by go_num, _, rfl, by rw [Hsu.out]; have := Hm.out; omega, by omega, Hb1.out⟩
          case measure => simp [intOf]; omega
        · rw [show less m (p[k].pre.length + p[k].l.length) = -1 by unfold less; rw [if_neg hq]]
          go_wp2_with fail
          go_ret
          refine ⟨?_, Hb1.out⟩
          unfold less bulkA
          rw [if_neg]
          · rfl
          · have h1 := Hsu.out
            have h2 := Hpa.out
            have := Hm.out
            omega
      · go_wp2_with fail
        go_ret
        refine ⟨?_, Hb.out⟩
        have h3 := Hm.out
        rw [List.take_of_length_le (by omega)] at h3
        unfold less bulkA
        rw [if_pos (by omega)]
        show Ending.returned (.int .i64 m) = _
        rw [h3]
        congr 2
        omega
  · have hL : less left (bulkA p) = -1 := by unfold less bulkA; rw [if_neg (by omega)]
    rw [hL]
    go_enter Tryz.func20, Tryz.ntmps20
    go_wp2
    go_ret
    exact ⟨rfl, Below.refl _ _⟩

set_option maxHeartbeats 800000 in
theorem szMaps {B : Nat} (v : Value) (p : List (List (Int × Int))) (left : Int) (w : World) (hr : MapsRow B w v p) (h0 : 0 ≤ left) (h1 : left ≤ 1048576) :
    Calls Tryz.prog 21 #[v, .int .i64 left] w fun e w' => (e = .returned (.int .i64 (less left (bulkV p)))) ∧ Below w.heap.size w w' := by
  have Hr : Hid (MapsRow B w v p) := hr
  obtain ⟨A, cap, rfl, hn, hc⟩ := hr
  clear hc
  by_cases hl : (p.length : Int) ≤ left
  · go_enter Tryz.func21, Tryz.ntmps21
    go_wp2
    go_loopw [1, 5] (fun l i wr => ∃ (k : Nat), k ≤ p.length ∧ i = .int .i64 k ∧ ∃ m : Int, l = .int .i64 m ∧ m = left - p.length - ((p.take k).map List.length).sum ∧ 0 ≤ m ∧ Below w.heap.size w wr)
      (fun _ i _ => p.length - (intOf i).toNat)
    case atStart => exact ⟨0, Nat.zero_le _, rfl, _, rfl, by simp, by omega, Below.refl _ _⟩
    case round =>
      obtain ⟨k, hk, rfl, m, rfl, hm, hm0, hb⟩ := hrel
      have Hb : Hid (Below w.heap.size w wr) := hb
      have Hm : Hid (m = left - p.length - ((p.take k).map List.length).sum) := hm
      clear hb hm
      by_cases hkl : k < p.length
      · obtain ⟨b, off, x, rfl, hlt, c0, hx⟩ := (Hr.out.below Hb.out).at k hkl
        have Hx : Hid (InsRow B wr x p[k]) := hx
        obtain ⟨Ax, cx, rfl⟩ := hx.form
        clear hx
        go_wp2_with fail
        refine (szVals _ _ m _ Hx.out hm0 (by have := Hm.out; omega)).mono ?_
        rintro e w1 ⟨rfl, hw1⟩
        subst w1
        have Hsu : Hid (((p.take (k + 1)).map List.length).sum = ((p.take k).map List.length).sum + p[k].length) := sum_succ List.length p k hkl
        have Hpa : Hid (((p.take (k + 1)).map List.length).sum ≤ (p.map List.length).sum) := sum_part List.length p (k + 1)
        by_cases hq : (p[k].length : Int) ≤ m
        · rw [show less m p[k].length = m - p[k].length by unfold less; rw [if_pos hq]]
          go_wp2_with fail
          go_roundw
          case rel => exact ⟨k + 1, by omega, by go_num, _, rfl, by rw [Hsu.out]; have := Hm.out; omega, by omega, Hb.out⟩
          case measure => simp [intOf]; omega
        · rw [show less m p[k].length = -1 by unfold less; rw [if_neg hq]]
          go_wp2_with fail
          go_ret
          refine ⟨?_, Hb.out⟩
          unfold less bulkV
          rw [if_neg]
          · rfl
          · have h1 := Hsu.out
            have h2 := Hpa.out
            have := Hm.out
            omega
      · go_wp2_with fail
        go_ret
        refine ⟨?_, Hb.out⟩
        have h3 := Hm.out
        rw [List.take_of_length_le (by omega)] at h3
        unfold less bulkV
        rw [if_pos (by omega)]
        show Ending.returned (.int .i64 m) = _
        rw [h3]
        congr 2
        omega
  · have hL : less left (bulkV p) = -1 := by unfold less bulkV; rw [if_neg (by omega)]
    rw [hL]
    go_enter Tryz.func21, Tryz.ntmps21
    go_wp2
    go_ret
    exact ⟨rfl, Below.refl _ _⟩

set_option maxHeartbeats 1600000 in
theorem szAsm {B : Nat} (x y : Value) (a : AsM) (left : Int) (w : World) (hr : AsRow B w x y a) (h0 : 0 ≤ left) (h1 : left ≤ 1048576) :
    Calls Tryz.prog 6 #[asV x y a, .int .i64 left] w fun e w' => (e = .returned (.int .i64 (less left a.bulk))) ∧ Below w.heap.size w w' := by
  obtain ⟨hx, hy⟩ := hr
  have Hx : Hid (AiRow B w x a.code) := hx
  have Hy : Hid (MapsRow B w y a.maps) := hy
  obtain ⟨A, cap, rfl⟩ := hx.form
  obtain ⟨D, dap, rfl⟩ := hy.form
  clear hx hy
  unfold asV
  have X0 : Hid (AsBox (w.alloc (.cells #[.int .i64 a.func, .slice A a.code.length cap, .slice D a.maps.length dap] 28)) w.heap.size (.slice A a.code.length cap) (.slice D a.maps.length dap) a) := asBox_new w _ _ a 28
  have X2 : Hid (Below w.heap.size w (w.alloc (.cells #[.int .i64 a.func, .slice A a.code.length cap, .slice D a.maps.length dap] 28))) := (Below.refl _ _).alloc (Nat.le_refl _) _
  have hsb : a.bulk = bulkA a.code + bulkV a.maps := rfl
  go_enter Tryz.func6, Tryz.ntmps6
  go_wp2_with fail
  refine (szAis _ a.code left _ (Hx.out.below X2.out) h0 h1).mono ?_
  rintro e w1 ⟨rfl, hb1⟩
  obtain ⟨cz, -, c1, c2⟩ := (X0.out.below hb1).cells
  have hq := less_two left (bulkA a.code)
  obtain ⟨q, Hq⟩ : ∃ q, Hid (q = less left (bulkA a.code)) := ⟨_, rfl⟩
  rw [← Hq.out] at hq ⊢
  have Hb1 : Hid (Below w.heap.size w w1) := X2.out.trans (hb1.mono X2.out.size)
  clear hb1
  rcases hq with rfl | ⟨hq, hq'⟩
  · have He : Hid (less left a.bulk = -1) := by show less left a.bulk = -1; rw [hsb]; exact less_neg _ _ _ (by rw [← Hq.out]; omega)
    go_wp2_with fail
    go_ret
    exact ⟨by rw [He.out]; rfl, Hb1.out⟩
  · go_wp2_with fail
    refine (szMaps _ a.maps q _ (Hy.out.below Hb1.out) hq (by omega)).mono ?_
    rintro e w2 ⟨rfl, hb2⟩
    have Hb2 : Hid (Below w.heap.size w w2) := Hb1.out.trans (hb2.mono Hb1.out.size)
    clear hb2 c1 c2 cz Hb1
    have He : Hid (less q (bulkV a.maps) = less left a.bulk) := by show less q _ = _; rw [Hq.out, hsb]; exact less_less _ _ _ (by rw [← Hq.out]; exact hq)
    have hp := less_two q (bulkV a.maps)
    obtain ⟨p, Hp⟩ : ∃ p, Hid (p = less q (bulkV a.maps)) := ⟨_, rfl⟩
    rw [← Hp.out] at hp ⊢
    rcases hp with rfl | ⟨hp, hp'⟩
    · go_wp2_with fail
      go_ret
      exact ⟨by rw [← He.out, ← Hp.out]; rfl, Hb2.out⟩
    · go_wp2_with fail
      go_ret
      exact ⟨by rw [← He.out, ← Hp.out]; rfl, Hb2.out⟩
end Go.Proofs.YtijgonjnmibifaaGreatDoor
