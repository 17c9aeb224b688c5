/- Lists of Vals, of moves, instructions, lists of maps held against each other: spec.l10SameVals; slices.Equal, EqualFunc, impl.asmInsSame. -/
import Derived.Test.YtijgonjnmibifaaGreatDoorAm
import Derived.Test.YtijgonjnmibifaaGreatDoorAmEq
import Derived.Laws.StructEq
namespace Go.Proofs.YtijgonjnmibifaaGreatDoor
open Go.RowKit

theorem ne_at {α : Type} {c d : List α} (k : Nat) (h : k < c.length) (h' : k < d.length) (hne : ¬ c[k] = d[k]) : ¬ c = d := by
  intro e; subst e; exact hne rfl
theorem eq_at {α : Type} {c d : List α} (hl : c.length = d.length) (h : ∀ j (h : j < c.length) (h' : j < d.length), c[j] = d[j]) : c = d := List.ext_getElem hl fun j h1 h2 => h j h1 h2

theorem eqVl (a b c d : Int) (w : World) : (Op.equalIn 10000 62 (.agg #[.int .i64 a, .int .i64 b]) (.agg #[.int .i64 c, .int .i64 d])).run Tryz.prog w = .ok (a == c && b == d) w := by
  have u3 := Tryz.underlying2
  have a3 := Tryz.isAgg2
  have z3 := Tryz.sizeOf2
  have hS : Tryz.prog.underlying 62 = some (.struct (Tryz.prog.fieldsOf 62)) := by kernel_rfl
  have hp : Tryz.prog.stoodInHeld 62 = false := by kernel_rfl
  rw [show (10000 : Nat) = 9999 + 1 from rfl, run_equalIn_agg w 9999 62 _ _ hS hp]
  simp only [Program.fieldsOf, Tryz.underlying62]
  go_simp
  by_cases h1 : a = c <;> by_cases h2 : b = d <;> simp [h1, h2]
theorem eqVl' (a b c d : Int) (w : World) : (Op.equalIn 9999 62 (.agg #[.int .i64 a, .int .i64 b]) (.agg #[.int .i64 c, .int .i64 d])).run Tryz.prog w = .ok (a == c && b == d) w := by
  have u3 := Tryz.underlying2
  have a3 := Tryz.isAgg2
  have z3 := Tryz.sizeOf2
  have hS : Tryz.prog.underlying 62 = some (.struct (Tryz.prog.fieldsOf 62)) := by kernel_rfl
  have hp : Tryz.prog.stoodInHeld 62 = false := by kernel_rfl
  rw [show (9999 : Nat) = 9998 + 1 from rfl, run_equalIn_agg w 9998 62 _ _ hS hp]
  simp only [Program.fieldsOf, Tryz.underlying62]
  go_simp
  by_cases h1 : a = c <;> by_cases h2 : b = d <;> simp [h1, h2]

theorem eqMv (m o : MvM) (w : World) : (Op.equalIn 10000 64 (.agg #[.int .i64 m.to, .int .i64 m.kind, .int .i64 m.n]) (.agg #[.int .i64 o.to, .int .i64 o.kind, .int .i64 o.n])).run Tryz.prog w = .ok (decide (m = o)) w := by
  have u3 := Tryz.underlying2
  have a3 := Tryz.isAgg2
  have z3 := Tryz.sizeOf2
  have av := Tryz.isAgg62
  have zv := Tryz.sizeOf62
  have hv := eqVl'
  have hS : Tryz.prog.underlying 64 = some (.struct (Tryz.prog.fieldsOf 64)) := by kernel_rfl
  have hp : Tryz.prog.stoodInHeld 64 = false := by kernel_rfl
  rw [show (10000 : Nat) = 9999 + 1 from rfl, run_equalIn_agg w 9999 64 _ _ hS hp]
  simp only [Program.fieldsOf, Tryz.underlying64]
  go_simp
  obtain ⟨a, b, c⟩ := m
  obtain ⟨d, e, f⟩ := o
  by_cases h1 : a = d <;> by_cases h2 : b = e <;> by_cases h3 : c = f <;> simp [h1, h2, h3]

theorem pair_no {a b : Int × Int} (h : ¬ a = b) : (a.1 == b.1 && a.2 == b.2) = false := by
  rw [Bool.and_eq_false_iff]
  by_cases h1 : a.1 = b.1
  · exact .inr (by rw [beq_eq_false_iff_ne]; exact fun h2 => h (Prod.ext h1 h2))
  · exact .inl (by rwa [beq_eq_false_iff_ne])
theorem pair_yes {a b : Int × Int} (h : a = b) : (a.1 == b.1 && a.2 == b.2) = true := by subst h; simp


set_option maxRecDepth 100000 in
set_option maxHeartbeats 1600000 in
theorem equalV {B C : Nat} (v u : Value) (c d : List (Int × Int)) (w : World) (hr : InsRow B w v c) (ht : InsRow C w u d) :
    Calls Tryz.prog 99 #[v, u] w fun e w' => e = .returned (.bool (decide (c = d))) ∧ Below w.heap.size w w' := by
  have Hr : Hid (InsRow B w v c) := hr
  have Ht : Hid (InsRow C w u d) := ht
  have hcl := hr.len
  have hdl := ht.len
  obtain ⟨A, cap, rfl⟩ := hr.form
  obtain ⟨D, dap, rfl⟩ := ht.form
  clear hr ht
  by_cases hl : c.length = d.length
  · rw [hl] at Hr ⊢
    have Hl : Hid (c.length = d.length) := hl
    clear hl hcl
    go_enter Tryz.func99, Tryz.ntmps99
    go_wp2_with fail
    go_loopg [13] (d.length) (fun g i wr => ∃ k : Nat, k ≤ d.length ∧ i = .int .i64 k ∧ d.length ≤ k + g ∧ Below w.heap.size w wr ∧ ∀ j (h : j < c.length) (h' : j < d.length), j < k → c[j] = d[j])
    case atStart => exact ⟨0, Nat.zero_le _, rfl, by omega, Below.refl _ _, fun j _ _ h => by omega⟩
    case round =>
      obtain ⟨k, hk, rfl, hkg, hb, hsame⟩ := hrel
      have Hb : Hid (Below w.heap.size w wr) := hb
      have Hsame : Hid (∀ j (h : j < c.length) (h' : j < d.length), j < k → c[j] = d[j]) := hsame
      clear hb hsame
      by_cases hkl : k < d.length
      · have hkc : k < c.length := by rw [Hl.out]; exact hkl
        obtain ⟨b, off, rfl, hlt, c0, c1⟩ := (Hr.out.below Hb.out).at k hkc
        obtain ⟨b', off', rfl, hlt', d0, d1⟩ := (Ht.out.below Hb.out).at k hkl
        have he := eqVl
        by_cases hcd : c[k] = d[k]
        · have Hcd : Hid (c[k] = d[k]) := hcd
          rw [hcd] at c0 c1
          clear hcd
          go_upto_region 6 with fail
          go_quiet (fail)
          go_wp2_with fail
          go_roundg (gk - 1)
          case measure => omega
          case rel => exact ⟨k + 1, by omega, by go_num, by omega, below_drewN Hb.out _, fun j h h' hj => if e : j = k then by subst e; exact Hcd.out else Hsame.out j h h' (by omega)⟩
        · have hne := pair_no hcd
          have HT : Hid (decide (c = d) = false) := by show decide (c = d) = false; simpa using ne_at k hkc hkl hcd
          clear hcd
          go_upto_region 6 with fail
          go_quiet (fail)
          go_wp2_with fail
          go_ret
          exact ⟨by rw [HT.out]; rfl, below_drewN Hb.out _⟩
      · go_wp2_with fail
        go_ret
        exact ⟨by rw [decide_eq_true (eq_at Hl.out fun j h h' => Hsame.out j h h' (by omega))]; rfl, Hb.out⟩
  · have hl' : ((c.length : Int) != (d.length : Int)) = true := by simpa using (show ¬ (c.length : Int) = (d.length : Int) by omega)
    have HT : Hid (decide (c = d) = false) := by show decide (c = d) = false; simpa using fun e => hl (by rw [e])
    go_enter Tryz.func99, Tryz.ntmps99
    go_wp2_with fail
    go_ret
    exact ⟨by rw [HT.out]; rfl, Below.refl _ _⟩

set_option maxRecDepth 100000 in
set_option maxHeartbeats 1600000 in
theorem equalM {B C : Nat} (v u : Value) (c d : List MvM) (w : World) (hr : MvRow B w v c) (ht : MvRow C w u d) :
    Calls Tryz.prog 98 #[v, u] w fun e w' => e = .returned (.bool (decide (c = d))) ∧ Below w.heap.size w w' := by
  have Hr : Hid (MvRow B w v c) := hr
  have Ht : Hid (MvRow C w u d) := ht
  have hcl := hr.len
  have hdl := ht.len
  obtain ⟨A, cap, rfl⟩ := hr.form
  obtain ⟨D, dap, rfl⟩ := ht.form
  clear hr ht
  by_cases hl : c.length = d.length
  · rw [hl] at Hr ⊢
    have Hl : Hid (c.length = d.length) := hl
    clear hl hcl
    go_enter Tryz.func98, Tryz.ntmps98
    go_wp2_with fail
    go_loopg [13] (d.length) (fun g i wr => ∃ k : Nat, k ≤ d.length ∧ i = .int .i64 k ∧ d.length ≤ k + g ∧ Below w.heap.size w wr ∧ ∀ j (h : j < c.length) (h' : j < d.length), j < k → c[j] = d[j])
    case atStart => exact ⟨0, Nat.zero_le _, rfl, by omega, Below.refl _ _, fun j _ _ h => by omega⟩
    case round =>
      obtain ⟨k, hk, rfl, hkg, hb, hsame⟩ := hrel
      have Hb : Hid (Below w.heap.size w wr) := hb
      have Hsame : Hid (∀ j (h : j < c.length) (h' : j < d.length), j < k → c[j] = d[j]) := hsame
      clear hb hsame
      by_cases hkl : k < d.length
      · have hkc : k < c.length := by rw [Hl.out]; exact hkl
        obtain ⟨b, off, rfl, hlt, c0, c1, c2⟩ := (Hr.out.below Hb.out).at k hkc
        obtain ⟨b', off', rfl, hlt', d0, d1, d2⟩ := (Ht.out.below Hb.out).at k hkl
        have he := eqMv c[k] d[k]
        by_cases hcd : c[k] = d[k]
        · have Hcd : Hid (c[k] = d[k]) := hcd
          rw [decide_eq_true hcd] at he
          clear hcd
          go_upto_region 6 with fail
          go_quiet (fail)
          go_wp2_with fail
          go_roundg (gk - 1)
          case measure => omega
          case rel => exact ⟨k + 1, by omega, by go_num, by omega, below_drewN Hb.out _, fun j h h' hj => if e : j = k then by subst e; exact Hcd.out else Hsame.out j h h' (by omega)⟩
        · rw [decide_eq_false hcd] at he
          have HT : Hid (decide (c = d) = false) := by show decide (c = d) = false; simpa using ne_at k hkc hkl hcd
          clear hcd
          go_upto_region 6 with fail
          go_quiet (fail)
          go_wp2_with fail
          go_ret
          exact ⟨by rw [HT.out]; rfl, below_drewN Hb.out _⟩
      · go_wp2_with fail
        go_ret
        exact ⟨by rw [decide_eq_true (eq_at Hl.out fun j h h' => Hsame.out j h h' (by omega))]; rfl, Hb.out⟩
  · have hl' : ((c.length : Int) != (d.length : Int)) = true := by simpa using (show ¬ (c.length : Int) = (d.length : Int) by omega)
    have HT : Hid (decide (c = d) = false) := by show decide (c = d) = false; simpa using fun e => hl (by rw [e])
    go_enter Tryz.func98, Tryz.ntmps98
    go_wp2_with fail
    go_ret
    exact ⟨by rw [HT.out]; rfl, Below.refl _ _⟩


theorem aiM_eq {f g : AiM} : f = g ↔ f.op = g.op ∧ f.to = g.to ∧ f.t = g.t ∧ f.pre = g.pre ∧ f.l = g.l := by
  obtain ⟨a, b, c, d, e⟩ := f
  obtain ⟨a', b', c', d', e'⟩ := g
  simp only [AiM.mk.injEq]
  constructor
  · rintro ⟨h1, h2, h3, h4, h5⟩; exact ⟨h2, h3, h5, h1, h4⟩
  · rintro ⟨h1, h2, h3, h4, h5⟩; exact ⟨h4, h1, h2, h5, h3⟩

set_option maxRecDepth 100000 in
set_option maxHeartbeats 1600000 in
theorem implSameAi {B C : Nat} (f g : AiM) (v u v' u' : Value) (w : World) (h1 : MvRow B w v f.pre) (h2 : InsRow B w u f.l) (h3 : MvRow C w v' g.pre) (h4 : InsRow C w u' g.l) :
    Calls Tryz.prog 59 #[.agg #[v, .int .i64 f.op, .int .i64 f.to, u, .int .i64 f.t], .agg #[v', .int .i64 g.op, .int .i64 g.to, u', .int .i64 g.t]] w fun e w' => e = .returned (.bool (decide (f = g))) ∧ Below w.heap.size w w' := by
  have H1 : Hid (MvRow B w v f.pre) := h1
  have H2 : Hid (InsRow B w u f.l) := h2
  have H3 : Hid (MvRow C w v' g.pre) := h3
  have H4 : Hid (InsRow C w u' g.l) := h4
  obtain ⟨A1, c1, rfl⟩ := h1.form
  obtain ⟨A2, c2, rfl⟩ := h2.form
  obtain ⟨A3, c3, rfl⟩ := h3.form
  obtain ⟨A4, c4, rfl⟩ := h4.form
  clear h1 h2 h3 h4
  obtain ⟨x0, x1, x2⟩ := boxes_new w #[.slice A1 f.pre.length c1, .int .i64 f.op, .int .i64 f.to, .slice A2 f.l.length c2, .int .i64 f.t] #[.slice A3 g.pre.length c3, .int .i64 g.op, .int .i64 g.to, .slice A4 g.l.length c4, .int .i64 g.t] 60 60
  have X0 : Hid (Box _ w.heap.size #[.slice A1 f.pre.length c1, .int .i64 f.op, .int .i64 f.to, .slice A2 f.l.length c2, .int .i64 f.t]) := x0
  have X1 : Hid (Box _ (w.heap.size + 1) #[.slice A3 g.pre.length c3, .int .i64 g.op, .int .i64 g.to, .slice A4 g.l.length c4, .int .i64 g.t]) := x1
  have X2 : Hid (Below w.heap.size w _) := x2
  clear x0 x1 x2
  by_cases hop : f.op = g.op
  case neg =>
    have hne : (f.op == g.op) = false := by simpa using hop
    have HT : Hid (decide (f = g) = false) := by show decide (f = g) = false; simp [aiM_eq, hop]
    clear X0 X1
    go_enter Tryz.func59, Tryz.ntmps59
    go_wp2_with fail
    go_ret
    exact ⟨by rw [HT.out]; rfl, X2.out⟩
  rw [hop] at X0 X1 X2 ⊢
  by_cases hto : f.to = g.to
  case neg =>
    have hne : (f.to == g.to) = false := by simpa using hto
    have HT : Hid (decide (f = g) = false) := by show decide (f = g) = false; simp [aiM_eq, hto]
    clear X0 X1
    go_enter Tryz.func59, Tryz.ntmps59
    go_wp2_with fail
    go_ret
    exact ⟨by rw [HT.out]; rfl, X2.out⟩
  rw [hto] at X0 X1 X2 ⊢
  by_cases htt : f.t = g.t
  case neg =>
    have hne : (f.t == g.t) = false := by simpa using htt
    have HT : Hid (decide (f = g) = false) := by show decide (f = g) = false; simp [aiM_eq, htt]
    clear X0 X1
    go_enter Tryz.func59, Tryz.ntmps59
    go_wp2_with fail
    go_ret
    exact ⟨by rw [HT.out]; rfl, X2.out⟩
  rw [htt] at X0 X1 X2 ⊢
  go_enter Tryz.func59, Tryz.ntmps59
  go_wp2_with fail
  refine (equalM _ _ _ _ _ (H1.out.below X2.out) (H3.out.below X2.out)).mono ?_
  rintro e w1 ⟨rfl, hb1⟩
  have Hb1 : Hid (Below w.heap.size w w1) := X2.out.trans (hb1.mono X2.out.size)
  have d0 : w1.cell? ⟨w.heap.size, 3, none⟩ = some (.slice A2 f.l.length c2) := (X0.out.below hb1).2 3
  have d1 : w1.cell? ⟨w.heap.size + 1, 3, none⟩ = some (.slice A4 g.l.length c4) := (X1.out.below hb1).2 3
  have e0 := (X0.out.below hb1).1
  have e1 := (X1.out.below hb1).1
  clear hb1
  by_cases hl : f.pre = g.pre
  · rw [decide_eq_true hl]
    go_wp2_with fail
    refine (equalV _ _ _ _ _ (H2.out.below Hb1.out) (H4.out.below Hb1.out)).mono ?_
    rintro e w2 ⟨rfl, hb2⟩
    have Hb2 : Hid (Below w.heap.size w w2) := Hb1.out.trans (hb2.mono Hb1.out.size)
    clear hb2
    have HT : Hid (decide (f = g) = decide (f.l = g.l)) := by show decide (f = g) = _; simp [aiM_eq, hop, hto, htt, hl]
    by_cases hst : f.l = g.l
    · rw [decide_eq_true hst] at HT ⊢
      go_wp2_with fail
      go_ret
      exact ⟨by rw [HT.out]; rfl, Hb2.out⟩
    · rw [decide_eq_false hst] at HT ⊢
      go_wp2_with fail
      go_ret
      exact ⟨by rw [HT.out]; rfl, Hb2.out⟩
  · have HT : Hid (decide (f = g) = false) := by show decide (f = g) = false; simp [aiM_eq, hl]
    rw [decide_eq_false hl]
    go_wp2_with fail
    go_ret
    exact ⟨by rw [HT.out]; rfl, Hb1.out⟩


end Go.Proofs.YtijgonjnmibifaaGreatDoor
