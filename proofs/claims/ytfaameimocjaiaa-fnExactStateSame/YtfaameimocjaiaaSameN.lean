/- Lists of numbers, arrays, frames held against each other: spec.l06SameNums, l06SameHeap; slices.Equal, EqualFunc, impl.frameSame. -/
import Derived.Test.YtfaameimocjaiaaStEq
namespace Go.Proofs.Ytfaameimocjaiaa
open Go.RowKit

theorem list_ne_at {α : Type} {c d : List α} (k : Nat) (h : k < c.length) (h' : k < d.length) (hne : ¬ c[k] = d[k]) : ¬ c = d := by
  intro e; subst e; exact hne rfl
theorem list_eq_at {α : Type} {c d : List α} (hl : c.length = d.length) (h : ∀ j (h : j < c.length) (h' : j < d.length), c[j] = d[j]) : c = d := List.ext_getElem hl fun j h1 h2 => h j h1 h2

set_option maxRecDepth 100000 in
set_option maxHeartbeats 1600000 in
theorem specSameN {B C : Nat} (v u : Value) (c d : List Int) (w : World) (hr : IRow B w v c) (ht : IRow C w u d) :
    Calls Try.prog 13 #[v, u] w fun e w' => e = .returned (.bool (decide (c = d))) ∧ Below w.heap.size w w' := by
  have Hr : Hid (IRow B w v c) := hr
  have Ht : Hid (IRow C w u d) := ht
  have hcl := hr.len
  have hdl := ht.len
  obtain ⟨A, cap, rfl⟩ := hr.form
  obtain ⟨D, dap, rfl⟩ := ht.form
  clear hr ht
  by_cases hl : c.length = d.length
  · rw [hl] at Hr ⊢
    have Hl : Hid (c.length = d.length) := hl
    clear hl hcl
    go_enter Try.func13, Try.ntmps13
    go_wp2_with fail
    go_loopg [5] (d.length) (fun g i wr => ∃ k : Nat, k ≤ d.length ∧ i = .int .i64 k ∧ d.length ≤ k + g ∧ Below w.heap.size w wr ∧ ∀ j (h : j < c.length) (h' : j < d.length), j < k → c[j] = d[j])
    case atStart => exact ⟨0, Nat.zero_le _, rfl, by omega, Below.refl _ _, fun j _ _ h => by omega⟩
    case round =>
      obtain ⟨k, hk, rfl, hkg, hb, hsame⟩ := hrel
      have Hb : Hid (Below w.heap.size w wr) := hb
      have Hsame : Hid (∀ j (h : j < c.length) (h' : j < d.length), j < k → c[j] = d[j]) := hsame
      clear hb hsame
      by_cases hkl : k < d.length
      · have hkc : k < c.length := by rw [Hl.out]; exact hkl
        obtain ⟨b, off, rfl, _, hlt, c0⟩ := (Hr.out.below Hb.out).at k hkc
        obtain ⟨b', off', rfl, _, hlt', d0⟩ := (Ht.out.below Hb.out).at k hkl
        by_cases hcd : c[k] = d[k]
        · have Hcd : Hid (c[k] = d[k]) := hcd
          rw [hcd] at c0
          clear hcd
          go_upto_region 6 with fail
          go_quiet (fail)
          go_wp2_with fail
          go_roundg (gk - 1)
          case measure => omega
          case rel => exact ⟨k + 1, by omega, by go_num, by omega, below_drewN Hb.out _, fun j h h' hj => if e : j = k then by subst e; exact Hcd.out else Hsame.out j h h' (by omega)⟩
        · have hne : (c[k] != d[k]) = true := by simpa using hcd
          have HT : Hid (decide (c = d) = false) := by show decide (c = d) = false; simpa using list_ne_at k hkc hkl hcd
          clear hcd
          go_upto_region 6 with fail
          go_quiet (fail)
          go_wp2_with fail
          go_ret
          exact ⟨by rw [HT.out]; rfl, below_drewN Hb.out _⟩
      · go_wp2_with fail
        go_ret
        exact ⟨by rw [decide_eq_true (list_eq_at Hl.out fun j h h' => Hsame.out j h h' (by omega))]; rfl, Hb.out⟩
  · have hl' : ((c.length : Int) != (d.length : Int)) = true := by simpa using (show ¬ (c.length : Int) = (d.length : Int) by omega)
    have HT : Hid (decide (c = d) = false) := by show decide (c = d) = false; simpa using fun e => hl (by rw [e])
    go_enter Try.func13, Try.ntmps13
    go_wp2_with fail
    go_ret
    exact ⟨by rw [HT.out]; rfl, Below.refl _ _⟩

set_option maxRecDepth 100000 in
set_option maxHeartbeats 1600000 in
theorem equalN {B C : Nat} (v u : Value) (c d : List Int) (w : World) (hr : IRow B w v c) (ht : IRow C w u d) :
    Calls Try.prog 20 #[v, u] w fun e w' => e = .returned (.bool (decide (c = d))) ∧ Below w.heap.size w w' := by
  have Hr : Hid (IRow B w v c) := hr
  have Ht : Hid (IRow C w u d) := ht
  have hcl := hr.len
  have hdl := ht.len
  obtain ⟨A, cap, rfl⟩ := hr.form
  obtain ⟨D, dap, rfl⟩ := ht.form
  clear hr ht
  by_cases hl : c.length = d.length
  · rw [hl] at Hr ⊢
    have Hl : Hid (c.length = d.length) := hl
    clear hl hcl
    go_enter Try.func20, Try.ntmps20
    go_wp2_with fail
    go_loopg [13] (d.length) (fun g i wr => ∃ k : Nat, k ≤ d.length ∧ i = .int .i64 k ∧ d.length ≤ k + g ∧ Below w.heap.size w wr ∧ ∀ j (h : j < c.length) (h' : j < d.length), j < k → c[j] = d[j])
    case atStart => exact ⟨0, Nat.zero_le _, rfl, by omega, Below.refl _ _, fun j _ _ h => by omega⟩
    case round =>
      obtain ⟨k, hk, rfl, hkg, hb, hsame⟩ := hrel
      have Hb : Hid (Below w.heap.size w wr) := hb
      have Hsame : Hid (∀ j (h : j < c.length) (h' : j < d.length), j < k → c[j] = d[j]) := hsame
      clear hb hsame
      by_cases hkl : k < d.length
      · have hkc : k < c.length := by rw [Hl.out]; exact hkl
        obtain ⟨b, off, rfl, _, hlt, c0⟩ := (Hr.out.below Hb.out).at k hkc
        obtain ⟨b', off', rfl, _, hlt', d0⟩ := (Ht.out.below Hb.out).at k hkl
        by_cases hcd : c[k] = d[k]
        · have Hcd : Hid (c[k] = d[k]) := hcd
          rw [hcd] at c0
          clear hcd
          go_upto_region 6 with fail
          go_quiet (fail)
          go_wp2_with fail
          go_roundg (gk - 1)
          case measure => omega
          case rel => exact ⟨k + 1, by omega, by go_num, by omega, below_drewN Hb.out _, fun j h h' hj => if e : j = k then by subst e; exact Hcd.out else Hsame.out j h h' (by omega)⟩
        · have hne : (c[k] != d[k]) = true := by simpa using hcd
          have HT : Hid (decide (c = d) = false) := by show decide (c = d) = false; simpa using list_ne_at k hkc hkl hcd
          clear hcd
          go_upto_region 6 with fail
          go_quiet (fail)
          go_wp2_with fail
          go_ret
          exact ⟨by rw [HT.out]; rfl, below_drewN Hb.out _⟩
      · go_wp2_with fail
        go_ret
        exact ⟨by rw [decide_eq_true (list_eq_at Hl.out fun j h h' => Hsame.out j h h' (by omega))]; rfl, Hb.out⟩
  · have hl' : ((c.length : Int) != (d.length : Int)) = true := by simpa using (show ¬ (c.length : Int) = (d.length : Int) by omega)
    have HT : Hid (decide (c = d) = false) := by show decide (c = d) = false; simpa using fun e => hl (by rw [e])
    go_enter Try.func20, Try.ntmps20
    go_wp2_with fail
    go_ret
    exact ⟨by rw [HT.out]; rfl, Below.refl _ _⟩

set_option maxRecDepth 100000 in
set_option maxHeartbeats 1600000 in
theorem specSameH {B C : Nat} (v u : Value) (c d : List (List Int)) (w : World) (hr : ArrRow B w v c) (ht : ArrRow C w u d) :
    Calls Try.prog 12 #[v, u] w fun e w' => e = .returned (.bool (decide (c = d))) ∧ Below w.heap.size w w' := by
  have Hr : Hid (ArrRow B w v c) := hr
  have Ht : Hid (ArrRow C w u d) := ht
  have hcl := hr.len
  have hdl := ht.len
  obtain ⟨A, cap, rfl⟩ := hr.form
  obtain ⟨D, dap, rfl⟩ := ht.form
  clear hr ht
  by_cases hl : c.length = d.length
  · rw [hl] at Hr ⊢
    have Hl : Hid (c.length = d.length) := hl
    clear hl hcl
    go_enter Try.func12, Try.ntmps12
    go_wp2_with fail
    go_loopg [5] (d.length) (fun g i wr => ∃ k : Nat, k ≤ d.length ∧ i = .int .i64 k ∧ d.length ≤ k + g ∧ Below w.heap.size w wr ∧ ∀ j (h : j < c.length) (h' : j < d.length), j < k → c[j] = d[j])
    case atStart => exact ⟨0, Nat.zero_le _, rfl, by omega, Below.refl _ _, fun j _ _ h => by omega⟩
    case round =>
      obtain ⟨k, hk, rfl, hkg, hb, hsame⟩ := hrel
      have Hb : Hid (Below w.heap.size w wr) := hb
      have Hsame : Hid (∀ j (h : j < c.length) (h' : j < d.length), j < k → c[j] = d[j]) := hsame
      clear hb hsame
      by_cases hkl : k < d.length
      · have hkc : k < c.length := by rw [Hl.out]; exact hkl
        obtain ⟨b, off, x, rfl, hlt, c0, hx⟩ := (Hr.out.below Hb.out).at k hkc
        obtain ⟨b', off', y, rfl, hlt', d0, hy⟩ := (Ht.out.below Hb.out).at k hkl
        have Hx : Hid (IRow B wr.drew x c[k]) := hx.below (Below.refl _ _).drew
        have Hy : Hid (IRow C wr.drew y d[k]) := hy.below (Below.refl _ _).drew
        obtain ⟨Ax, cx, rfl⟩ := hx.form
        obtain ⟨Ay, cy, rfl⟩ := hy.form
        clear hx hy
        go_upto_region 6 with fail
        go_cut [26] from 15 to 26 (fun x wc => x = .bool (!decide (c[k] = d[k])) ∧ Below w.heap.size w wc)
        case first =>
          go_region_with (go_at_call 13; refine (specSameN _ _ _ _ _ (by exact Hx.out) (by exact Hy.out)).mono ?_; rintro e w3 ⟨rfl, hb3⟩)
          all_goals
            go_wp2_with fail
            go_meet
            exact ⟨rfl, Hb.out.drew.trans (hb3.mono Hb.out.size)⟩
        case rest =>
          obtain ⟨rfl, hwc⟩ := hcut
          have Hwc : Hid (Below w.heap.size w wc) := hwc
          clear hwc
          by_cases hcd : c[k] = d[k]
          · have Hcd : Hid (c[k] = d[k]) := hcd
            rw [decide_eq_true hcd]
            clear hcd
            go_wp2_with fail
            go_roundg (gk - 1)
            case measure => omega
            case rel => exact ⟨k + 1, by omega, by go_num, by omega, Hwc.out, fun j h h' hj => if e : j = k then by subst e; exact Hcd.out else Hsame.out j h h' (by omega)⟩
          · have HT : Hid (decide (c = d) = false) := by show decide (c = d) = false; simpa using list_ne_at k hkc hkl hcd
            rw [decide_eq_false hcd]
            clear hcd
            go_wp2_with fail
            go_ret
            exact ⟨by rw [HT.out]; rfl, Hwc.out⟩
      · go_wp2_with fail
        go_ret
        exact ⟨by rw [decide_eq_true (list_eq_at Hl.out fun j h h' => Hsame.out j h h' (by omega))]; rfl, Hb.out⟩
  · have hl' : ((c.length : Int) != (d.length : Int)) = true := by simpa using (show ¬ (c.length : Int) = (d.length : Int) by omega)
    have HT : Hid (decide (c = d) = false) := by show decide (c = d) = false; simpa using fun e => hl (by rw [e])
    go_enter Try.func12, Try.ntmps12
    go_wp2_with fail
    go_ret
    exact ⟨by rw [HT.out]; rfl, Below.refl _ _⟩

set_option maxRecDepth 100000 in
set_option maxHeartbeats 1600000 in
theorem equalH {B C : Nat} (v u : Value) (c d : List (List Int)) (w : World) (hr : ArrRow B w v c) (ht : ArrRow C w u d) :
    Calls Try.prog 19 #[v, u, .func (.func 20) #[] #[]] w fun e w' => e = .returned (.bool (decide (c = d))) ∧ Below w.heap.size w w' := by
  have Hr : Hid (ArrRow B w v c) := hr
  have Ht : Hid (ArrRow C w u d) := ht
  have hcl := hr.len
  have hdl := ht.len
  obtain ⟨A, cap, rfl⟩ := hr.form
  obtain ⟨D, dap, rfl⟩ := ht.form
  clear hr ht
  by_cases hl : c.length = d.length
  · rw [hl] at Hr ⊢
    have Hl : Hid (c.length = d.length) := hl
    clear hl hcl
    go_enter Try.func19, Try.ntmps19
    go_wp2_with fail
    go_loopg [17] (d.length) (fun g i wr => ∃ k : Nat, k ≤ d.length ∧ i = .int .i64 k ∧ d.length ≤ k + g ∧ Below w.heap.size w wr ∧ ∀ j (h : j < c.length) (h' : j < d.length), j < k → c[j] = d[j])
    case atStart => exact ⟨0, Nat.zero_le _, rfl, by omega, Below.refl _ _, fun j _ _ h => by omega⟩
    case round =>
      obtain ⟨k, hk, rfl, hkg, hb, hsame⟩ := hrel
      have Hb : Hid (Below w.heap.size w wr) := hb
      have Hsame : Hid (∀ j (h : j < c.length) (h' : j < d.length), j < k → c[j] = d[j]) := hsame
      clear hb hsame
      by_cases hkl : k < d.length
      · have hkc : k < c.length := by rw [Hl.out]; exact hkl
        obtain ⟨b, off, x, rfl, hlt, c0, hx⟩ := (Hr.out.below Hb.out).at k hkc
        obtain ⟨b', off', y, rfl, hlt', d0, hy⟩ := (Ht.out.below Hb.out).at k hkl
        have Hx : Hid (IRow B wr x c[k]) := hx
        have Hy : Hid (IRow C wr y d[k]) := hy
        obtain ⟨Ax, cx, rfl⟩ := hx.form
        obtain ⟨Ay, cy, rfl⟩ := hy.form
        clear hx hy
        go_wp2_with fail
        refine (equalN _ _ _ _ _ Hx.out Hy.out).mono ?_
        rintro e w3 ⟨rfl, hb3⟩
        have Hwc : Hid (Below w.heap.size w w3) := Hb.out.trans (hb3.mono Hb.out.size)
        clear hb3 c0 d0
        by_cases hcd : c[k] = d[k]
        · have Hcd : Hid (c[k] = d[k]) := hcd
          rw [decide_eq_true hcd]
          clear hcd
          go_wp2_with fail
          go_roundg (gk - 1)
          case measure => omega
          case rel => exact ⟨k + 1, by omega, by go_num, by omega, Hwc.out, fun j h h' hj => if e : j = k then by subst e; exact Hcd.out else Hsame.out j h h' (by omega)⟩
        · have HT : Hid (decide (c = d) = false) := by show decide (c = d) = false; simpa using list_ne_at k hkc hkl hcd
          rw [decide_eq_false hcd]
          clear hcd
          go_wp2_with fail
          go_ret
          exact ⟨by rw [HT.out]; rfl, Hwc.out⟩
      · go_wp2_with fail
        go_ret
        exact ⟨by rw [decide_eq_true (list_eq_at Hl.out fun j h h' => Hsame.out j h h' (by omega))]; rfl, Hb.out⟩
  · have hl' : ((c.length : Int) != (d.length : Int)) = true := by simpa using (show ¬ (c.length : Int) = (d.length : Int) by omega)
    have HT : Hid (decide (c = d) = false) := by show decide (c = d) = false; simpa using fun e => hl (by rw [e])
    go_enter Try.func19, Try.ntmps19
    go_wp2_with fail
    go_ret
    exact ⟨by rw [HT.out]; rfl, Below.refl _ _⟩

theorem frM_eq {f g : FrM} : f = g ↔ f.func = g.func ∧ f.pc = g.pc ∧ f.locals = g.locals ∧ f.stack = g.stack := by
  obtain ⟨a, b, c, d⟩ := f
  obtain ⟨a', b', c', d'⟩ := g
  simp

set_option maxRecDepth 100000 in
set_option maxHeartbeats 1600000 in
theorem implSameFr {B C : Nat} (f g : FrM) (v u v' u' : Value) (w : World) (h1 : IRow B w v f.locals) (h2 : IRow B w u f.stack) (h3 : IRow C w v' g.locals) (h4 : IRow C w u' g.stack) :
    Calls Try.prog 18 #[.agg #[.int .i64 f.func, .int .i64 f.pc, v, u], .agg #[.int .i64 g.func, .int .i64 g.pc, v', u']] w fun e w' => e = .returned (.bool (decide (f = g))) ∧ Below w.heap.size w w' := by
  have H1 : Hid (IRow B w v f.locals) := h1
  have H2 : Hid (IRow B w u f.stack) := h2
  have H3 : Hid (IRow C w v' g.locals) := h3
  have H4 : Hid (IRow C w u' g.stack) := h4
  obtain ⟨A1, c1, rfl⟩ := h1.form
  obtain ⟨A2, c2, rfl⟩ := h2.form
  obtain ⟨A3, c3, rfl⟩ := h3.form
  obtain ⟨A4, c4, rfl⟩ := h4.form
  clear h1 h2 h3 h4
  obtain ⟨x0, x1, x2⟩ := boxes_new w #[.int .i64 f.func, .int .i64 f.pc, .slice A1 f.locals.length c1, .slice A2 f.stack.length c2] #[.int .i64 g.func, .int .i64 g.pc, .slice A3 g.locals.length c3, .slice A4 g.stack.length c4] 40 40
  have X0 : Hid (Box _ w.heap.size #[.int .i64 f.func, .int .i64 f.pc, .slice A1 f.locals.length c1, .slice A2 f.stack.length c2]) := x0
  have X1 : Hid (Box _ (w.heap.size + 1) #[.int .i64 g.func, .int .i64 g.pc, .slice A3 g.locals.length c3, .slice A4 g.stack.length c4]) := x1
  have X2 : Hid (Below w.heap.size w _) := x2
  clear x0 x1 x2
  by_cases hx : f.func = g.func
  · by_cases hy : f.pc = g.pc
    · rw [hx, hy] at X0 X1 X2 ⊢
      go_enter Try.func18, Try.ntmps18
      go_wp2_with fail
      refine (equalN _ _ _ _ _ (H1.out.below X2.out) (H3.out.below X2.out)).mono ?_
      rintro e w1 ⟨rfl, hb1⟩
      have Hb1 : Hid (Below w.heap.size w w1) := X2.out.trans (hb1.mono X2.out.size)
      have d0 : w1.cell? ⟨w.heap.size, 3, none⟩ = some (.slice A2 f.stack.length c2) := (X0.out.below hb1).2 3
      have d1 : w1.cell? ⟨w.heap.size + 1, 3, none⟩ = some (.slice A4 g.stack.length c4) := (X1.out.below hb1).2 3
      have e0 := (X0.out.below hb1).1
      have e1 := (X1.out.below hb1).1
      clear hb1
      by_cases hl : f.locals = g.locals
      · rw [decide_eq_true hl]
        go_wp2_with fail
        refine (equalN _ _ _ _ _ (H2.out.below Hb1.out) (H4.out.below Hb1.out)).mono ?_
        rintro e w2 ⟨rfl, hb2⟩
        have Hb2 : Hid (Below w.heap.size w w2) := Hb1.out.trans (hb2.mono Hb1.out.size)
        clear hb2
        have HT : Hid (decide (f = g) = decide (f.stack = g.stack)) := by show decide (f = g) = _; simp [frM_eq, hx, hy, hl]
        by_cases hst : f.stack = g.stack
        · rw [decide_eq_true hst] at HT ⊢
          go_wp2_with fail
          go_ret
          exact ⟨by rw [HT.out]; rfl, Hb2.out⟩
        · rw [decide_eq_false hst] at HT ⊢
          go_wp2_with fail
          go_ret
          exact ⟨by rw [HT.out]; rfl, Hb2.out⟩
      · have HT : Hid (decide (f = g) = false) := by show decide (f = g) = false; simp [frM_eq, hl]
        rw [decide_eq_false hl]
        go_wp2_with fail
        go_ret
        exact ⟨by rw [HT.out]; rfl, Hb1.out⟩
    · have hy' : (f.pc == g.pc) = false := by simpa using hy
      have HT : Hid (decide (f = g) = false) := by show decide (f = g) = false; simp [frM_eq, hy]
      rw [hx] at X2 ⊢
      clear X0 X1
      go_enter Try.func18, Try.ntmps18
      go_wp2_with fail
      go_ret
      exact ⟨by rw [HT.out]; rfl, X2.out⟩
  · have hx' : (f.func == g.func) = false := by simpa using hx
    have HT : Hid (decide (f = g) = false) := by show decide (f = g) = false; simp [frM_eq, hx]
    clear X0 X1
    go_enter Try.func18, Try.ntmps18
    go_wp2_with fail
    go_ret
    exact ⟨by rw [HT.out]; rfl, X2.out⟩

set_option maxRecDepth 100000 in
set_option maxHeartbeats 1600000 in
theorem equalFr {B C : Nat} (v u : Value) (c d : List FrM) (w : World) (hr : FrRow B w v c) (ht : FrRow C w u d) :
    Calls Try.prog 17 #[v, u, .func (.func 18) #[] #[]] w fun e w' => e = .returned (.bool (decide (c = d))) ∧ Below w.heap.size w w' := by
  have Hr : Hid (FrRow B w v c) := hr
  have Ht : Hid (FrRow C w u d) := ht
  have hcl := hr.len
  have hdl := ht.len
  obtain ⟨A, cap, rfl⟩ := hr.form
  obtain ⟨D, dap, rfl⟩ := ht.form
  clear hr ht
  by_cases hl : c.length = d.length
  · rw [hl] at Hr ⊢
    have Hl : Hid (c.length = d.length) := hl
    clear hl hcl
    go_enter Try.func17, Try.ntmps17
    go_wp2_with fail
    go_loopg [17] (d.length) (fun g i wr => ∃ k : Nat, k ≤ d.length ∧ i = .int .i64 k ∧ d.length ≤ k + g ∧ Below w.heap.size w wr ∧ ∀ j (h : j < c.length) (h' : j < d.length), j < k → c[j] = d[j])
    case atStart => exact ⟨0, Nat.zero_le _, rfl, by omega, Below.refl _ _, fun j _ _ h => by omega⟩
    case round =>
      obtain ⟨k, hk, rfl, hkg, hb, hsame⟩ := hrel
      have Hb : Hid (Below w.heap.size w wr) := hb
      have Hsame : Hid (∀ j (h : j < c.length) (h' : j < d.length), j < k → c[j] = d[j]) := hsame
      clear hb hsame
      by_cases hkl : k < d.length
      · have hkc : k < c.length := by rw [Hl.out]; exact hkl
        obtain ⟨b, off, x, y, rfl, hlt, c0, c1, c2, c3, hx, hy⟩ := (Hr.out.below Hb.out).at k hkc
        obtain ⟨b', off', x', y', rfl, hlt', d0, d1, d2, d3, hx', hy'⟩ := (Ht.out.below Hb.out).at k hkl
        have Hx : Hid (IRow B wr x c[k].locals) := hx
        have Hy : Hid (IRow B wr y c[k].stack) := hy
        have Hx' : Hid (IRow C wr x' d[k].locals) := hx'
        have Hy' : Hid (IRow C wr y' d[k].stack) := hy'
        obtain ⟨X1, z1, rfl⟩ := hx.form
        obtain ⟨X2, z2, rfl⟩ := hy.form
        obtain ⟨X3, z3, rfl⟩ := hx'.form
        obtain ⟨X4, z4, rfl⟩ := hy'.form
        have Hal : Hid (∀ o o' : Obj, Below wr.heap.size wr ((wr.alloc o).alloc o')) := fun o o' => ((Below.refl _ _).alloc (Nat.le_refl _) _).alloc (by simp) _
        clear hx hy hx' hy'
        go_wp2_with fail
        refine (implSameFr c[k] d[k] _ _ _ _ _ (Hx.out.below (Hal.out _ _)) (Hy.out.below (Hal.out _ _)) (Hx'.out.below (Hal.out _ _)) (Hy'.out.below (Hal.out _ _))).mono ?_
        rintro e w3 ⟨rfl, hb3⟩
        have Hwc : Hid (Below w.heap.size w w3) := Hb.out.trans (((Hal.out _ _).trans (hb3.mono (Hal.out _ _).size)).mono Hb.out.size)
        clear hb3 c0 d0 c1 d1 c2 d2 c3 d3
        by_cases hcd : c[k] = d[k]
        · have Hcd : Hid (c[k] = d[k]) := hcd
          rw [decide_eq_true hcd]
          clear hcd
          go_wp2_with fail
          go_roundg (gk - 1)
          case measure => omega
          case rel => exact ⟨k + 1, by omega, by go_num, by omega, Hwc.out, fun j h h' hj => if e : j = k then by subst e; exact Hcd.out else Hsame.out j h h' (by omega)⟩
        · have HT : Hid (decide (c = d) = false) := by show decide (c = d) = false; simpa using list_ne_at k hkc hkl hcd
          rw [decide_eq_false hcd]
          clear hcd
          go_wp2_with fail
          go_ret
          exact ⟨by rw [HT.out]; rfl, Hwc.out⟩
      · go_wp2_with fail
        go_ret
        exact ⟨by rw [decide_eq_true (list_eq_at Hl.out fun j h h' => Hsame.out j h h' (by omega))]; rfl, Hb.out⟩
  · have hl' : ((c.length : Int) != (d.length : Int)) = true := by simpa using (show ¬ (c.length : Int) = (d.length : Int) by omega)
    have HT : Hid (decide (c = d) = false) := by show decide (c = d) = false; simpa using fun e => hl (by rw [e])
    go_enter Try.func17, Try.ntmps17
    go_wp2_with fail
    go_ret
    exact ⟨by rw [HT.out]; rfl, Below.refl _ _⟩
end Go.Proofs.Ytfaameimocjaiaa
