/- laws.szState and what it calls. -/
import Derived.Test.YtfaameimocjaiaaDoorSt
import Derived.Test.YtfaameimocjaiaaDoorPrgSz
namespace Go.Proofs.YtfaameimocjaiaaDoor
open Go.RowKit

theorem less_less (left : Int) (a b : Nat) (h : 0 ≤ less left a) : less (less left a) b = less left (a + b) := by
  unfold less at h ⊢
  by_cases h1 : (a : Int) ≤ left
  · rw [if_pos h1]
    by_cases h2 : (b : Int) ≤ left - a
    · rw [if_pos h2, if_pos (by omega)]; omega
    · rw [if_neg h2, if_neg (by omega)]
  · rw [if_neg h1] at h; omega
theorem less_neg (left : Int) (a b : Nat) (h : less left a < 0) : less left (a + b) = -1 := by
  unfold less at h ⊢
  by_cases h1 : (a : Int) ≤ left
  · rw [if_pos h1] at h; omega
  · rw [if_neg (by omega)]
theorem less_two (left : Int) (n : Nat) : less left n = -1 ∨ (0 ≤ less left n ∧ less left n ≤ left) := by unfold less; split <;> omega

theorem szInts {B : Nat} (v : Value) (c : List Int) (left : Int) (w : World) (hr : IRow B w v c) (h0 : 0 ≤ left) (h1 : left ≤ 1048576) :
    Calls Tryd.prog 48 #[v, .int .i64 left] w fun e w' => (e = .returned (.int .i64 (less left c.length))) ∧ w' = w := by
  obtain ⟨A, cap, rfl, hn, hc⟩ := hr
  clear hc
  unfold less
  by_cases hl : (c.length : Int) ≤ left
  · rw [if_pos hl]
    go_enter Tryd.func48, Tryd.ntmps48
    go_wp2
    go_ret
    exact ⟨rfl, rfl⟩
  · rw [if_neg hl]
    go_enter Tryd.func48, Tryd.ntmps48
    go_wp2
    go_ret
    exact ⟨rfl, rfl⟩

set_option maxHeartbeats 800000 in
theorem szFrame {B : Nat} (x y : Int) (v u : Value) (l t : List Int) (left : Int) (w : World) (hr : IRow B w v l) (hu : IRow B w u t) (h0 : 0 ≤ left) (h1 : left ≤ 1048576) :
    Calls Tryd.prog 68 #[.agg #[.int .i64 x, .int .i64 y, v, u], .int .i64 left] w fun e w' => (e = .returned (.int .i64 (less left (l.length + t.length)))) ∧ Below w.heap.size w w' := by
  have Hr : Hid (IRow B w v l) := hr
  have Hu : Hid (IRow B w u t) := hu
  obtain ⟨A, cap, rfl⟩ := hr.form
  obtain ⟨D, dap, rfl⟩ := hu.form
  clear hr hu
  go_enter Tryd.func68, Tryd.ntmps68
  go_wp2_with fail
  refine (szInts _ l left _ (Hr.out.below ((Below.refl _ _).alloc (Nat.le_refl _) _)) h0 h1).mono ?_
  rintro e w1 ⟨rfl, h⟩
  subst w1
  have hq := less_two left l.length
  obtain ⟨q, Hq⟩ : ∃ q, Hid (q = less left l.length) := ⟨_, rfl⟩
  rw [← Hq.out] at hq ⊢
  rcases hq with rfl | ⟨hq, hq'⟩
  · have He : Hid (less left (l.length + t.length) = -1) := less_neg _ _ _ (by rw [← Hq.out]; omega)
    go_wp2_with fail
    go_ret
    exact ⟨by rw [He.out]; rfl, (Below.refl _ _).alloc (Nat.le_refl _) _⟩
  · go_wp2_with fail
    refine (szInts _ t q _ (Hu.out.below ((Below.refl _ _).alloc (Nat.le_refl _) _)) hq (by omega)).mono ?_
    rintro e w1 ⟨rfl, h⟩
    subst w1
    have He : Hid (less q t.length = less left (l.length + t.length)) := by show less q t.length = _; rw [Hq.out]; exact less_less _ _ _ (by rw [← Hq.out]; exact hq)
    have hp := less_two q t.length
    obtain ⟨p, Hp⟩ : ∃ p, Hid (p = less q t.length) := ⟨_, rfl⟩
    rw [← Hp.out] at hp ⊢
    rcases hp with rfl | ⟨hp, hp'⟩
    · go_wp2_with fail
      go_ret
      exact ⟨by rw [← He.out, ← Hp.out]; rfl, (Below.refl _ _).alloc (Nat.le_refl _) _⟩
    · go_wp2_with fail
      go_ret
      exact ⟨by rw [← He.out, ← Hp.out]; rfl, (Below.refl _ _).alloc (Nat.le_refl _) _⟩

set_option maxHeartbeats 800000 in
theorem szFrames {B : Nat} (v : Value) (p : List FrM) (left : Int) (w : World) (hr : FrRow B w v p) (h0 : 0 ≤ left) (h1 : left ≤ 1048576) :
    Calls Tryd.prog 46 #[v, .int .i64 left] w fun e w' => (e = .returned (.int .i64 (less left (bulkF p)))) ∧ Below w.heap.size w w' := by
  have Hr : Hid (FrRow B w v p) := hr
  obtain ⟨A, cap, rfl, hn, hc⟩ := hr
  clear hc
  by_cases hl : (p.length : Int) ≤ left
  · go_enter Tryd.func46, Tryd.ntmps46
    go_wp2
    go_loopw [1, 5] (fun l i wr => ∃ (k : Nat), k ≤ p.length ∧ i = .int .i64 k ∧ ∃ m : Int, l = .int .i64 m ∧ m = left - p.length - ((p.take k).map FrM.bulk).sum ∧ 0 ≤ m ∧ Below w.heap.size w wr)
      (fun _ i _ => p.length - (intOf i).toNat)
    case atStart => exact ⟨0, Nat.zero_le _, rfl, _, rfl, by simp, by omega, Below.refl _ _⟩
    case round =>
      obtain ⟨k, hk, rfl, m, rfl, hm, hm0, hb⟩ := hrel
      have Hb : Hid (Below w.heap.size w wr) := hb
      have Hm : Hid (m = left - p.length - ((p.take k).map FrM.bulk).sum) := hm
      clear hb hm
      by_cases hkl : k < p.length
      · obtain ⟨b, off, x, y, rfl, hlt, c0, c1, c2, c3, hx, hy⟩ := (Hr.out.below Hb.out).at k hkl
        have Hx : Hid (IRow B wr x p[k].locals) := hx
        have Hy : Hid (IRow B wr y p[k].stack) := hy
        clear hx hy
        go_wp2_with fail
        refine (szFrame _ _ x y _ _ m _ Hx.out Hy.out hm0 (by have := Hm.out; omega)).mono ?_
        rintro e w1 ⟨rfl, hb1⟩
        have Hb1 : Hid (Below w.heap.size w w1) := Hb.out.trans (hb1.mono Hb.out.size)
        clear hb1
        have hsu := sum_succ FrM.bulk p k hkl
        have hpa := sum_part FrM.bulk p (k + 1)
        rw [show FrM.bulk p[k] = p[k].locals.length + p[k].stack.length from rfl] at hsu
        have Hsu : Hid (((p.take (k + 1)).map FrM.bulk).sum = ((p.take k).map FrM.bulk).sum + (p[k].locals.length + p[k].stack.length)) := hsu
        have Hpa : Hid (((p.take (k + 1)).map FrM.bulk).sum ≤ (p.map FrM.bulk).sum) := hpa
        clear hsu hpa
        by_cases hq : ((p[k].locals.length + p[k].stack.length : Nat) : Int) ≤ m
        · rw [show less m (p[k].locals.length + p[k].stack.length) = m - (p[k].locals.length + p[k].stack.length : Nat) by unfold less; rw [if_pos hq]]
          go_wp2_with fail
          go_roundw
          case rel => exact ⟨k + 1, by omega, by go_num, _, rfl, by rw [Hsu.out]; have := Hm.out; omega, by omega, Hb1.out⟩
          case measure => simp [intOf]; omega
        · rw [show less m (p[k].locals.length + p[k].stack.length) = -1 by unfold less; rw [if_neg hq]]
          go_wp2_with fail
          go_ret
          refine ⟨?_, Hb1.out⟩
          unfold less bulkF
          rw [if_neg]
          · rfl
          · have h1 := Hsu.out
            have h2 := Hpa.out
            have := Hm.out
            omega
      · go_wp2_with fail
        go_ret
        refine ⟨?_, Hb.out⟩
        have h3 := Hm.out
        rw [List.take_of_length_le (by omega)] at h3
        unfold less bulkF
        rw [if_pos (by omega)]
        show Ending.returned (.int .i64 m) = _
        rw [h3]
        congr 2
        omega
  · have hL : less left (bulkF p) = -1 := by unfold less bulkF; rw [if_neg (by omega)]
    rw [hL]
    go_enter Tryd.func46, Tryd.ntmps46
    go_wp2
    go_ret
    exact ⟨rfl, Below.refl _ _⟩

set_option maxHeartbeats 800000 in
theorem szArrs {B : Nat} (v : Value) (p : List (List Int)) (left : Int) (w : World) (hr : ArrRow B w v p) (h0 : 0 ≤ left) (h1 : left ≤ 1048576) :
    Calls Tryd.prog 47 #[v, .int .i64 left] w fun e w' => (e = .returned (.int .i64 (less left (bulkH p)))) ∧ Below w.heap.size w w' := by
  have Hr : Hid (ArrRow B w v p) := hr
  obtain ⟨A, cap, rfl, hn, hc⟩ := hr
  clear hc
  by_cases hl : (p.length : Int) ≤ left
  · go_enter Tryd.func47, Tryd.ntmps47
    go_wp2
    go_loopw [1, 5] (fun l i wr => ∃ (k : Nat), k ≤ p.length ∧ i = .int .i64 k ∧ ∃ m : Int, l = .int .i64 m ∧ m = left - p.length - ((p.take k).map List.length).sum ∧ 0 ≤ m ∧ Below w.heap.size w wr)
      (fun _ i _ => p.length - (intOf i).toNat)
    case atStart => exact ⟨0, Nat.zero_le _, rfl, _, rfl, by simp, by omega, Below.refl _ _⟩
    case round =>
      obtain ⟨k, hk, rfl, m, rfl, hm, hm0, hb⟩ := hrel
      have Hb : Hid (Below w.heap.size w wr) := hb
      have Hm : Hid (m = left - p.length - ((p.take k).map List.length).sum) := hm
      clear hb hm
      by_cases hkl : k < p.length
      · obtain ⟨b, off, x, rfl, hlt, c0, hx⟩ := (Hr.out.below Hb.out).at k hkl
        have Hx : Hid (IRow B wr x p[k]) := hx
        obtain ⟨Ax, cx, rfl⟩ := hx.form
        clear hx
        go_wp2_with fail
        refine (szInts _ _ m _ Hx.out hm0 (by have := Hm.out; omega)).mono ?_
        rintro e w1 ⟨rfl, hw1⟩
        subst w1
        have Hsu : Hid (((p.take (k + 1)).map List.length).sum = ((p.take k).map List.length).sum + p[k].length) := sum_succ List.length p k hkl
        have Hpa : Hid (((p.take (k + 1)).map List.length).sum ≤ (p.map List.length).sum) := sum_part List.length p (k + 1)
        by_cases hq : (p[k].length : Int) ≤ m
        · rw [show less m p[k].length = m - p[k].length by unfold less; rw [if_pos hq]]
          go_wp2_with fail
          go_roundw
          case rel => exact ⟨k + 1, by omega, by go_num, _, rfl, by rw [Hsu.out]; have := Hm.out; omega, by omega, Hb.out⟩
          case measure => simp [intOf]; omega
        · rw [show less m p[k].length = -1 by unfold less; rw [if_neg hq]]
          go_wp2_with fail
          go_ret
          refine ⟨?_, Hb.out⟩
          unfold less bulkH
          rw [if_neg]
          · rfl
          · have h1 := Hsu.out
            have h2 := Hpa.out
            have := Hm.out
            omega
      · go_wp2_with fail
        go_ret
        refine ⟨?_, Hb.out⟩
        have h3 := Hm.out
        rw [List.take_of_length_le (by omega)] at h3
        unfold less bulkH
        rw [if_pos (by omega)]
        show Ending.returned (.int .i64 m) = _
        rw [h3]
        congr 2
        omega
  · have hL : less left (bulkH p) = -1 := by unfold less bulkH; rw [if_neg (by omega)]
    rw [hL]
    go_enter Tryd.func47, Tryd.ntmps47
    go_wp2
    go_ret
    exact ⟨rfl, Below.refl _ _⟩

set_option maxHeartbeats 1600000 in
theorem szState {B : Nat} (x y z : Value) (s : StM) (left : Int) (w : World) (hr : StRow B w x y z s) (h0 : 0 ≤ left) (h1 : left ≤ 1048576) :
    Calls Tryd.prog 20 #[stV x y z s, .int .i64 left] w fun e w' => (e = .returned (.int .i64 (less left s.bulk))) ∧ Below w.heap.size w w' := by
  obtain ⟨hx, hy, hz⟩ := hr
  have Hx : Hid (FrRow B w x s.frames) := hx
  have Hy : Hid (ArrRow B w y s.heap) := hy
  have Hz : Hid (IRow B w z s.out) := hz
  obtain ⟨A, cap, rfl⟩ := hx.form
  obtain ⟨D, dap, rfl⟩ := hy.form
  obtain ⟨E, eap, rfl⟩ := hz.form
  clear hx hy hz
  unfold stV
  obtain ⟨C, hC⟩ : ∃ C : Array Value, C = #[.slice A s.frames.length cap, .slice D s.heap.length dap, .slice E s.out.length eap, .int .i64 s.fuel, .bool s.done, .int .i64 s.value, .int .i64 s.trap] := ⟨_, rfl⟩
  have X0 : Hid (Box (w.alloc (.cells C 48)) w.heap.size C) := box_new w C 48
  have X2 : Hid (Below w.heap.size w (w.alloc (.cells C 48))) := (Below.refl _ _).alloc (Nat.le_refl _) _
  rw [hC] at X0 X2
  have Hk : Hid (∀ w', Below (w.alloc (.cells C 48)).heap.size (w.alloc (.cells C 48)) w' → w'.cell? ⟨w.heap.size, 1, none⟩ = some (.slice D s.heap.length dap) ∧ w'.cell? ⟨w.heap.size, 2, none⟩ = some (.slice E s.out.length eap) ∧ w.heap.size < w'.heap.size ∧ ArrRow B w' (.slice D s.heap.length dap) s.heap ∧ IRow B w' (.slice E s.out.length eap) s.out ∧ Below w.heap.size w w') := by
    intro w' h
    rw [hC] at h
    have b0 := X0.out.below h
    have hw := X2.out.trans (h.mono X2.out.size)
    exact ⟨b0.at1, b0.at2, b0.1, Hy.out.below hw, Hz.out.below hw, hw⟩
  rw [hC] at Hk
  clear hC C X0
  have hsb : s.bulk = bulkF s.frames + bulkH s.heap + s.out.length := rfl
  go_enter Tryd.func20, Tryd.ntmps20
  go_wp2_with fail
  refine (szFrames _ s.frames left _ (Hx.out.below X2.out) h0 h1).mono ?_
  rintro e w1 ⟨rfl, hb1⟩
  obtain ⟨c1, c2, cz, -, -, -⟩ := Hk.out _ hb1
  have hq := less_two left (bulkF s.frames)
  obtain ⟨q, Hq⟩ : ∃ q, Hid (q = less left (bulkF s.frames)) := ⟨_, rfl⟩
  rw [← Hq.out] at hq ⊢
  have Hb1 : Hid (Below (w.alloc (.cells #[.slice A s.frames.length cap, .slice D s.heap.length dap, .slice E s.out.length eap, .int .i64 s.fuel, .bool s.done, .int .i64 s.value, .int .i64 s.trap] 48)).heap.size (w.alloc (.cells #[.slice A s.frames.length cap, .slice D s.heap.length dap, .slice E s.out.length eap, .int .i64 s.fuel, .bool s.done, .int .i64 s.value, .int .i64 s.trap] 48)) w1) := hb1
  clear hb1
  rcases hq with rfl | ⟨hq, hq'⟩
  · have He : Hid (less left s.bulk = -1) := by show less left s.bulk = -1; rw [hsb, Nat.add_assoc]; exact less_neg _ _ _ (by rw [← Hq.out]; omega)
    go_wp2_with fail
    go_ret
    exact ⟨by rw [He.out]; rfl, (Hk.out _ Hb1.out).2.2.2.2.2⟩
  · go_wp2_with fail
    refine (szArrs _ s.heap q _ (Hk.out _ Hb1.out).2.2.2.1 hq (by omega)).mono ?_
    rintro e w2 ⟨rfl, hb2⟩
    have hb12 := Hb1.out.trans (hb2.mono Hb1.out.size)
    have Hb2 : Hid (Below (w.alloc (.cells #[.slice A s.frames.length cap, .slice D s.heap.length dap, .slice E s.out.length eap, .int .i64 s.fuel, .bool s.done, .int .i64 s.value, .int .i64 s.trap] 48)).heap.size (w.alloc (.cells #[.slice A s.frames.length cap, .slice D s.heap.length dap, .slice E s.out.length eap, .int .i64 s.fuel, .bool s.done, .int .i64 s.value, .int .i64 s.trap] 48)) w2) := hb12
    clear hb2 hb12 c1 c2 cz Hb1
    obtain ⟨-, c2, cz, -, -, -⟩ := Hk.out _ Hb2.out
    have He : Hid (less q (bulkH s.heap) = less left (bulkF s.frames + bulkH s.heap)) := by show less q _ = _; rw [Hq.out]; exact less_less _ _ _ (by rw [← Hq.out]; exact hq)
    have hp := less_two q (bulkH s.heap)
    obtain ⟨p, Hp⟩ : ∃ p, Hid (p = less q (bulkH s.heap)) := ⟨_, rfl⟩
    rw [← Hp.out] at hp ⊢
    rcases hp with rfl | ⟨hp, hp'⟩
    · have He2 : Hid (less left s.bulk = -1) := by show less left s.bulk = -1; rw [hsb]; exact less_neg _ _ _ (by rw [← He.out, ← Hp.out]; omega)
      go_wp2_with fail
      go_ret
      exact ⟨by rw [He2.out]; rfl, (Hk.out _ Hb2.out).2.2.2.2.2⟩
    · go_wp2_with fail
      refine (szInts _ s.out p _ (Hk.out _ Hb2.out).2.2.2.2.1 hp (by omega)).mono ?_
      rintro e w3 ⟨rfl, hw3⟩
      subst w3
      have He3 : Hid (less p s.out.length = less left s.bulk) := by show less p _ = _; rw [Hp.out, He.out, hsb]; exact less_less _ _ _ (by rw [← He.out, ← Hp.out]; exact hp)
      have hr := less_two p s.out.length
      obtain ⟨r, Hr⟩ : ∃ r, Hid (r = less p s.out.length) := ⟨_, rfl⟩
      rw [← Hr.out] at hr ⊢
      rcases hr with rfl | ⟨hr, hr'⟩
      · go_wp2_with fail
        go_ret
        exact ⟨by rw [← He3.out, ← Hr.out]; rfl, (Hk.out _ Hb2.out).2.2.2.2.2⟩
      · go_wp2_with fail
        go_ret
        exact ⟨by rw [← He3.out, ← Hr.out]; rfl, (Hk.out _ Hb2.out).2.2.2.2.2⟩
end Go.Proofs.YtfaameimocjaiaaDoor
