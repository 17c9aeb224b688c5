/- impl.fieldsRight, asmInsRight, mapRight, bareNop. -/
import Derived.Test.YtijgonjnmibifaaGreatDoorInsAW
namespace Go.Proofs.YtijgonjnmibifaaGreatDoor
open Go.RowKit

set_option maxRecDepth 100000 in
set_option maxHeartbeats 3200000 in
theorem implFields {B : Nat} (v x : Value) (A2 : Option Addr) (c2 : Nat) (p : List FnM) (f : Int) (i : AiM) (w : World) (ht : Tab w) (hr : FnRow B w v p) (hl : i.l.length ≤ 9223372036854775807) :
    Calls Tryz.prog 104 #[.agg #[v], .int .i64 f, aiV x (.slice A2 i.l.length c2) i] w fun e w' => e = .returned (.bool (fieldsOk p f i)) ∧ Below w.heap.size w w' := by
  have Hr : Hid (FnRow B w v p) := hr
  have Ht : Hid (Tab w) := ht
  obtain ⟨A, cap, rfl⟩ := hr.form
  clear hr ht
  obtain ⟨pre, op, tg, l, t⟩ := i
  unfold aiV
  dsimp only at hl ⊢
  have Hb : Hid (∀ o o', Below w.heap.size w ((w.alloc o).alloc o')) := fun o o' => ((Below.refl _ _).alloc (Nat.le_refl _) _).alloc (by simp) _
  by_cases h0 : op = 0
  · subst h0
    have HT : Hid (fieldsOk p f ⟨pre, 0, tg, l, t⟩ = decide (tg = -1 ∧ l.length = 0 ∧ t = 0)) := by show _ = _; simp [fieldsOk]
    by_cases h1 : tg = -1
    · subst h1
      by_cases h2 : l.length = 0
      · rw [h2]
        go_enter Tryz.func104, Tryz.ntmps104
        go_wp2
        go_ret
        exact ⟨by rw [HT.out]; simp [h2]; try rfl, Hb.out _ _⟩
      · have e2 : ((l.length : Int) == 0) = false := by simpa using (show ¬ (l.length : Int) = 0 by omega)
        go_enter Tryz.func104, Tryz.ntmps104
        go_wp2
        go_ret
        exact ⟨by rw [HT.out]; simp [h2]; try rfl, Hb.out _ _⟩
    · have e1 : (tg == -1) = false := by simpa using h1
      go_enter Tryz.func104, Tryz.ntmps104
      go_wp2
      go_ret
      exact ⟨by rw [HT.out]; simp [h1]; try rfl, Hb.out _ _⟩
  have e0 : (op == 0) = false := by simpa using h0
  by_cases h1 : op = 1
  · subst h1
    have HT : Hid (fieldsOk p f ⟨pre, 1, tg, l, t⟩ = (locOk tg && decide (l.length = 1 ∧ t = 0))) := by show _ = _; simp [fieldsOk]
    clear h0 e0
    by_cases h2 : locOk tg = true
    · by_cases h3 : l.length = 1
      · rw [h3]
        go_enter Tryz.func104, Tryz.ntmps104
        go_wp2_with fail
        refine (implLoc tg _).mono ?_
        rintro e w1 ⟨rfl, h⟩
        subst w1
        rw [h2]
        go_wp2
        go_ret
        exact ⟨by rw [HT.out]; simp [h2, h3]; try rfl, Hb.out _ _⟩
      · have e3 : ((l.length : Int) == 1) = false := by simpa using (show ¬ (l.length : Int) = 1 by omega)
        go_enter Tryz.func104, Tryz.ntmps104
        go_wp2_with fail
        refine (implLoc tg _).mono ?_
        rintro e w1 ⟨rfl, h⟩
        subst w1
        rw [h2]
        go_wp2
        go_ret
        exact ⟨by rw [HT.out]; simp [h3]; try rfl, Hb.out _ _⟩
    · rw [Bool.not_eq_true] at h2
      go_enter Tryz.func104, Tryz.ntmps104
      go_wp2_with fail
      refine (implLoc tg _).mono ?_
      rintro e w1 ⟨rfl, h⟩
      subst w1
      rw [h2]
      go_wp2
      go_ret
      exact ⟨by rw [HT.out]; simp [h2]; try rfl, Hb.out _ _⟩
  have e1 : (op == 1) = false := by simpa using h1
  by_cases h3 : op = 3
  · subst h3
    have HT : Hid (fieldsOk p f ⟨pre, 3, tg, l, t⟩ = decide (tg = -1 ∧ l.length = 1 ∧ (t = 1 ∨ t = 2))) := by show _ = _; simp [fieldsOk]
    clear h0 e0 h1 e1
    by_cases h1 : tg = -1
    · subst h1
      by_cases h2 : l.length = 1
      · rw [h2]
        by_cases h4 : t = 1
        · subst h4
          go_enter Tryz.func104, Tryz.ntmps104
          go_wp2
          go_ret
          exact ⟨by rw [HT.out]; simp [h2]; try rfl, Hb.out _ _⟩
        · have e4 : (t == 1) = false := by simpa using h4
          go_enter Tryz.func104, Tryz.ntmps104
          go_wp2
          go_ret
          exact ⟨by rw [HT.out]; simp [h2, h4]; try rfl, Hb.out _ _⟩
      · have e2 : ((l.length : Int) == 1) = false := by simpa using (show ¬ (l.length : Int) = 1 by omega)
        go_enter Tryz.func104, Tryz.ntmps104
        go_wp2
        go_ret
        exact ⟨by rw [HT.out]; simp [h2]; try rfl, Hb.out _ _⟩
    · have e1 : (tg == -1) = false := by simpa using h1
      go_enter Tryz.func104, Tryz.ntmps104
      go_wp2
      go_ret
      exact ⟨by rw [HT.out]; simp [h1]; try rfl, Hb.out _ _⟩
  have e3 : (op == 3) = false := by simpa using h3
  have HT : Hid (fieldsOk p f ⟨pre, op, tg, l, t⟩ = (decide (10 ≤ op) && progOpOk p f ⟨pre, op, tg, l, t⟩)) := by show _ = _; simp [fieldsOk, progOpOk, h0, h1, h3]
  by_cases h10 : 10 ≤ op
  · obtain ⟨x0, x1, x2⟩ := boxes_new w #[.slice A p.length cap] #[x, .int .i64 op, .int .i64 tg, .slice A2 l.length c2, .int .i64 t] 34 60
    have X2 : Hid (Below w.heap.size w _) := x2
    have HC := implProgOp (.slice A p.length cap) x A2 c2 p f ⟨pre, op, tg, l, t⟩ _ (Ht.out.below X2.out) (Hr.out.below X2.out) hl
    unfold aiV at HC
    dsimp only at HC
    clear x0 x1 x2
    go_enter Tryz.func104, Tryz.ntmps104
    go_wp2_with fail
    refine HC.mono ?_
    rintro e w1 ⟨rfl, hb1⟩
    have Hb1 : Hid (Below w.heap.size w w1) := X2.out.trans (hb1.mono X2.out.size)
    clear hb1 X2 HC
    go_wp2_with fail
    go_ret
    exact ⟨by rw [HT.out]; simp [h10]; try rfl, Hb1.out⟩
  · have e10 : decide (10 ≤ op) = false := by simpa using h10
    go_enter Tryz.func104, Tryz.ntmps104
    go_wp2
    go_ret
    exact ⟨by rw [HT.out]; simp [e10]; try rfl, Hb.out _ _⟩

set_option maxRecDepth 100000 in
set_option maxHeartbeats 3200000 in
theorem implAi {B : Nat} (v x y : Value) (p : List FnM) (f : Int) (i : AiM) (w : World) (ht : Tab w) (hr : FnRow B w v p) (hx : MvRow B w x i.pre) (hy : InsRow B w y i.l) :
    Calls Tryz.prog 61 #[.agg #[v], .int .i64 f, aiV x y i] w fun e w' => e = .returned (.bool (aiOk p f i)) ∧ Below w.heap.size w w' := by
  have Hr : Hid (FnRow B w v p) := hr
  have Ht : Hid (Tab w) := ht
  have Hx : Hid (MvRow B w x i.pre) := hx
  have Hy : Hid (InsRow B w y i.l) := hy
  have hlp := hx.len
  have hll := hy.len
  obtain ⟨A, cap, rfl⟩ := hr.form
  obtain ⟨A1, c1, rfl⟩ := hx.form
  obtain ⟨A2, c2, rfl⟩ := hy.form
  clear hr ht hx hy
  unfold aiV
  obtain ⟨x0, x1, x2⟩ := boxes_new w #[.slice A p.length cap] #[.slice A1 i.pre.length c1, .int .i64 i.op, .int .i64 i.to, .slice A2 i.l.length c2, .int .i64 i.t] 34 60
  have X0 : Hid (Box _ w.heap.size #[.slice A p.length cap]) := x0
  have X1 : Hid (AiBox _ (w.heap.size + 1) (.slice A1 i.pre.length c1) (.slice A2 i.l.length c2) i) := x1
  have X2 : Hid (Below w.heap.size w _) := x2
  clear x0 x1 x2
  by_cases h16 : i.pre.length ≤ 16
  case neg =>
    have e16 : decide ((i.pre.length : Int) ≤ 16) = false := by simp; omega
    have HT : Hid (aiOk p f i = false) := by show _ = _; simp [aiOk, h16]
    clear X0 X1
    go_enter Tryz.func61, Tryz.ntmps61
    go_wp2
    go_ret
    exact ⟨by rw [HT.out]; rfl, X2.out⟩
  have e16 : decide ((i.pre.length : Int) ≤ 16) = true := by simp; omega
  go_enter Tryz.func61, Tryz.ntmps61
  go_wp2_with fail
  refine (implMovs _ i.pre _ (Hx.out.below X2.out)).mono ?_
  rintro e w1 ⟨rfl, hb1⟩
  have Hb1 : Hid (Below w.heap.size w w1) := X2.out.trans (hb1.mono X2.out.size)
  have Y0 : Hid (Box w1 w.heap.size #[.slice A p.length cap]) := X0.out.below hb1
  have Y1 : Hid (AiBox w1 (w.heap.size + 1) (.slice A1 i.pre.length c1) (.slice A2 i.l.length c2) i) := X1.out.below hb1
  clear hb1 X0 X1 X2
  by_cases hm : i.pre.all movOk = true
  case neg =>
    rw [Bool.not_eq_true] at hm
    have HT : Hid (aiOk p f i = false) := by show _ = _; simp only [aiOk, hm, Bool.and_false, Bool.false_and]
    rw [hm]
    go_wp2
    go_ret
    exact ⟨by rw [HT.out]; rfl, Hb1.out⟩
  rw [hm]
  obtain ⟨s1, -, -, -, d3, -⟩ := Y1.out.cells
  go_wp2_with fail
  refine (implNums _ i.l _ (Hy.out.below Hb1.out)).mono ?_
  rintro e w2 ⟨rfl, hb2⟩
  have Hb2 : Hid (Below w.heap.size w w2) := Hb1.out.trans (hb2.mono Hb1.out.size)
  have Z0 : Hid (Box w2 w.heap.size #[.slice A p.length cap]) := Y0.out.below hb2
  have Z1 : Hid (AiBox w2 (w.heap.size + 1) (.slice A1 i.pre.length c1) (.slice A2 i.l.length c2) i) := Y1.out.below hb2
  clear hb2 Y0 Y1 s1 d3
  by_cases hn : i.l.all numOk = true
  case neg =>
    rw [Bool.not_eq_true] at hn
    have HT : Hid (aiOk p f i = false) := by show _ = _; simp only [aiOk, hn, Bool.and_false, Bool.false_and]
    rw [hn]
    go_wp2
    go_ret
    exact ⟨by rw [HT.out]; rfl, Hb2.out⟩
  rw [hn]
  have HT : Hid (aiOk p f i = fieldsOk p f i) := by show _ = _; simp only [aiOk, hm, hn, h16, decide_true, Bool.true_and]
  clear hm hn
  have s0 := Z0.out.1
  have q0 := Z0.out.at0
  obtain ⟨s1, d0, d1, d2, d3, d4⟩ := Z1.out.cells
  go_wp2_with fail
  refine (implFields (.slice A p.length cap) (.slice A1 i.pre.length c1) A2 c2 p f i _ (Ht.out.below Hb2.out) (Hr.out.below Hb2.out) hll).mono ?_
  rintro e w3 ⟨rfl, hb3⟩
  have Hb3 : Hid (Below w.heap.size w w3) := Hb2.out.trans (hb3.mono Hb2.out.size)
  clear hb3 s0 q0 s1 d0 d1 d2 d3 d4
  go_wp2_with fail
  go_ret
  exact ⟨by rw [HT.out]; rfl, Hb3.out⟩

set_option maxRecDepth 100000 in
theorem implMap {B : Nat} (y : Value) (l : List (Int × Int)) (n : Int) (w : World) (hy : InsRow B w y l) :
    Calls Tryz.prog 62 #[y, .int .i64 n] w fun e w' => e = .returned (.bool (mapOk l n)) ∧ Below w.heap.size w w' := by
  have Hy : Hid (InsRow B w y l) := hy
  have hll := hy.len
  obtain ⟨A2, c2, rfl⟩ := hy.form
  clear hy
  by_cases h : (l.length : Int) = n
  · subst h
    have HT : Hid (mapOk l (l.length : Int) = l.all valOk) := by show _ = _; simp [mapOk]
    go_enter Tryz.func62, Tryz.ntmps62
    go_wp2_with fail
    refine (implVals _ l _ Hy.out).mono ?_
    rintro e w1 ⟨rfl, hb1⟩
    have Hb1 : Hid (Below w.heap.size w w1) := hb1
    clear hb1
    go_wp2_with fail
    go_ret
    exact ⟨by rw [HT.out]; rfl, Hb1.out⟩
  · have e1 : ((l.length : Int) == n) = false := by simpa using h
    have HT : Hid (mapOk l n = false) := by show _ = _; simp [mapOk, h]
    go_enter Tryz.func62, Tryz.ntmps62
    go_wp2
    go_ret
    exact ⟨by rw [HT.out]; rfl, Below.refl _ _⟩

theorem implBare (w : World) : Calls Tryz.prog 60 #[] w fun e w' => e = .returned (.agg #[.slice none 0 0, .int .i64 0, .int .i64 (-1), .slice none 0 0, .int .i64 0]) ∧ Below w.heap.size w w' := by
  go_enter Tryz.func60, Tryz.ntmps60
  go_wp2
  exact bodyPost_ret (v := .agg #[.slice none 0 0, .int .i64 0, .int .i64 (-1), .slice none 0 0, .int .i64 0]) (by simp [results, Tryz.results60, go_sem]) rfl ⟨rfl, (Below.refl _ _).alloc (Nat.le_refl _) _⟩
end Go.Proofs.YtijgonjnmibifaaGreatDoor
