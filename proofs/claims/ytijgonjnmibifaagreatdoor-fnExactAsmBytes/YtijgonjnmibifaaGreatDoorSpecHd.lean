/- spec.l04Heights: what stands in memory, and what going on comes to place by place. -/
import Derived.Test.YtijgonjnmibifaaGreatDoorSpecL
import Derived.Test.YtijgonjnmibifaaGreatDoorIRow
import Derived.Laws.OwnMore
import Derived.BigRegion
namespace Go.Proofs.YtijgonjnmibifaaGreatDoor
open Go.RowKit

/-- what stands in memory as heights are found: the program's box, the answer's cell, the heights, what waits -/
structure SpH (w wr : World) (prg : Value) (s : HS) : Prop where
  box : Box wr w.heap.size #[prg]
  res : VRow wr (w.heap.size + 1) (ints [0, 0, 0])
  hh : VRow wr (w.heap.size + 1 + 1) (ints s.h)
  ww : VRow wr (w.heap.size + 1 + 1 + 1) (truths s.wt)
  bel : Below w.heap.size w wr

theorem SpH.below {w wr w1 : World} {prg : Value} {s : HS} (h : SpH w wr prg s) (hb : Below wr.heap.size wr w1) : SpH w w1 prg s :=
  ⟨h.box.below hb, h.res.below hb, h.hh.below hb, h.ww.below hb, h.bel.trans (hb.mono h.bel.size)⟩

theorem SpH.setH {w wr : World} {prg : Value} {s : HS} (h : SpH w wr prg s) (k : Nat) (x : Int) (hk : k < s.h.length) : SpH w (wr.setCell ⟨w.heap.size + 1 + 1, k, none⟩ (.int .i64 x)) prg ⟨s.h.set k x, s.wt⟩ :=
  ⟨h.box.set_far _ _ (by show w.heap.size + 1 + 1 ≠ w.heap.size; omega), h.res.set_far _ _ (by show w.heap.size + 1 + 1 ≠ w.heap.size + 1; omega), by have := h.hh.set_at k (.int .i64 x) (by simpa [ints] using hk); rwa [ints_set] at this, h.ww.set_far _ _ (by show w.heap.size + 1 + 1 ≠ w.heap.size + 1 + 1 + 1; omega), h.bel.setCell (by show w.heap.size ≤ w.heap.size + 1 + 1; omega) _⟩

theorem SpH.setW {w wr : World} {prg : Value} {s : HS} (h : SpH w wr prg s) (k : Nat) (x : Bool) (hk : k < s.wt.length) : SpH w (wr.setCell ⟨w.heap.size + 1 + 1 + 1, k, none⟩ (.bool x)) prg ⟨s.h, s.wt.set k x⟩ :=
  ⟨h.box.set_far _ _ (by show w.heap.size + 1 + 1 + 1 ≠ w.heap.size; omega), h.res.set_far _ _ (by show w.heap.size + 1 + 1 + 1 ≠ w.heap.size + 1; omega), h.hh.set_far _ _ (by show w.heap.size + 1 + 1 + 1 ≠ w.heap.size + 1 + 1; omega), by have := h.ww.set_at k (.bool x) (by simpa [truths] using hk); rwa [truths_set] at this, h.bel.setCell (by show w.heap.size ≤ w.heap.size + 1 + 1 + 1; omega) _⟩

theorem Tryz.infoB : (Tryz.prog.info? 4).map (fun i => (i.zero, i.size, i.bytes)) = some (some (.bool false), 1, 1) := by kernel_rfl

theorem ints_replicate (n : Nat) (x : Int) : ints (List.replicate n x) = List.replicate n (.int .i64 x) := by simp [ints]
theorem truths_replicate (n : Nat) (x : Bool) : truths (List.replicate n x) = List.replicate n (.bool x) := by simp [truths]

theorem all_minus {zs : List Int} (h : ∀ j, j < zs.length → zs.getD j 0 = -1) : zs = List.replicate zs.length (-1) := by
  apply List.ext_getElem
  · simp
  · intro j h1 h2
    have := h j h1
    simp [List.getD, h1] at this
    simp [this]

theorem three_new (w : World) (C D E : Array Value) (t u s : TypeId) : Box (((w.alloc (.cells C t)).alloc (.cells D u)).alloc (.cells E s)) w.heap.size C ∧ VRow (((w.alloc (.cells C t)).alloc (.cells D u)).alloc (.cells E s)) (w.heap.size + 1) D.toList ∧
    VRow (((w.alloc (.cells C t)).alloc (.cells D u)).alloc (.cells E s)) (w.heap.size + 1 + 1) E.toList ∧ Below w.heap.size w (((w.alloc (.cells C t)).alloc (.cells D u)).alloc (.cells E s)) ∧ (((w.alloc (.cells C t)).alloc (.cells D u)).alloc (.cells E s)).heap.size = w.heap.size + 1 + 1 + 1 := by
  obtain ⟨x0, _, x2⟩ := boxes_new w C D t u
  have h1 : (w.alloc (.cells C t)).heap.size = w.heap.size + 1 := by simp
  have h2 : ((w.alloc (.cells C t)).alloc (.cells D u)).heap.size = w.heap.size + 1 + 1 := by simp
  have y1 := vrow_new (w.alloc (.cells C t)) D u
  have y2 := vrow_new ((w.alloc (.cells C t)).alloc (.cells D u)) E s
  rw [h1] at y1
  rw [h2] at y2
  have hb : Below ((w.alloc (.cells C t)).alloc (.cells D u)).heap.size ((w.alloc (.cells C t)).alloc (.cells D u)) (((w.alloc (.cells C t)).alloc (.cells D u)).alloc (.cells E s)) := (Below.refl _ _).alloc (Nat.le_refl _) _
  exact ⟨x0.below hb, y1.below hb, y2, x2.trans (hb.mono x2.size), by simp⟩

/-- what l04Heights tells -/
def HTold (p : List FnM) (c : List (Int × Int)) (f : Nat) (w w' : World) (e : Ending) : Prop :=
  ∃ b cap F A C, e = .returned (.tuple #[.slice (some ⟨b, 0, none⟩) c.length cap, .agg #[.int .i64 F, .int .i64 A, .int .i64 C]]) ∧ w.heap.size ≤ b ∧ Below w.heap.size w w' ∧
    ((F = 0 ∧ A = 0 ∧ C = 0 ∧ ∃ hs, HRun p c (startH c.length) (.inl hs) ∧ VRow w' b (ints hs) ∧ hs.length = c.length) ∨ (F = f ∧ ∃ a : Nat, A = a ∧ HRun p c (startH c.length) (.inr (a, C))))

theorem VRow.upTo {w w' : World} {b B : Nat} {vs : List Value} (h : VRow w b vs) (hb : Below B w w') (hB : b < B) : VRow w' b vs :=
  ⟨Nat.lt_of_lt_of_le h.1 hb.size, fun j hj => by rw [hb.cell (by exact hB), hb.frozen (by exact hB)]; exact h.2 j hj⟩

theorem VRow.put3 {w : World} {b : Nat} {x y z : Value} (h : VRow w b [x, y, z]) (x' y' z' : Value) : VRow (((w.setCell ⟨b, 0, none⟩ x').setCell ⟨b, 1, none⟩ y').setCell ⟨b, 2, none⟩ z') b [x', y', z'] :=
  ((h.set_at 0 x' (by simp)).set_at 1 y' (by simp)).set_at 2 z' (by simp)
theorem VRow.at0 {w : World} {b : Nat} {x : Value} {l : List Value} (h : VRow w b (x :: l)) : w.cell? ⟨b, 0, none⟩ = some x := (h.2 0 (by simp)).1
theorem VRow.at1 {w : World} {b : Nat} {x y : Value} {l : List Value} (h : VRow w b (x :: y :: l)) : w.cell? ⟨b, 1, none⟩ = some y := (h.2 1 (by simp)).1
theorem VRow.at2 {w : World} {b : Nat} {x y z : Value} {l : List Value} (h : VRow w b (x :: y :: z :: l)) : w.cell? ⟨b, 2, none⟩ = some z := (h.2 2 (by simp)).1
theorem VRow.far3 {w : World} {b g : Nat} {vs : List Value} (h : VRow w b vs) (x y z : Value) (hg : g ≠ b) : VRow (((w.setCell ⟨g, 0, none⟩ x).setCell ⟨g, 1, none⟩ y).setCell ⟨g, 2, none⟩ z) b vs := ((h.set_far _ _ hg).set_far _ _ hg).set_far _ _ hg
theorem below_put3 {B : Nat} {w0 w : World} {g : Nat} (h : Below B w0 w) (x y z : Value) (hg : B ≤ g) : Below B w0 (((w.setCell ⟨g, 0, none⟩ x).setCell ⟨g, 1, none⟩ y).setCell ⟨g, 2, none⟩ z) := ((h.setCell hg _).setCell hg _).setCell hg _

/-- .. and in a turn: the instruction at hand, the fault that would be told -/
structure SpR (w wr : World) (prg : Value) (s : HS) (M : Nat) (op a : Int) (bad : List Int) : Prop where
  sp : SpH w wr prg s
  hM : w.heap.size + 1 + 1 + 1 < M
  ins : Box wr M #[.int .i64 op, .int .i64 a]
  bad : VRow wr (M + 1) (ints bad)

theorem SpR.below {w wr w1 : World} {prg : Value} {s : HS} {M : Nat} {op a : Int} {bad : List Int} (h : SpR w wr prg s M op a bad) (hb : Below wr.heap.size wr w1) : SpR w w1 prg s M op a bad :=
  ⟨h.sp.below hb, h.hM, h.ins.below hb, h.bad.below hb⟩

theorem SpR.upTo {w wr w1 : World} {prg : Value} {s : HS} {M : Nat} {op a : Int} {bad : List Int} (h : SpR w wr prg s M op a bad) (hb : Below (M + 1 + 1) wr w1) : SpR w w1 prg s M op a bad :=
  have hz := h.hM
  ⟨⟨⟨Nat.lt_of_lt_of_le h.sp.box.1 hb.size, fun j => by rw [hb.cell (by show w.heap.size < M + 1 + 1; omega)]; exact h.sp.box.2 j⟩, h.sp.res.upTo hb (by omega), h.sp.hh.upTo hb (by omega), h.sp.ww.upTo hb (by omega), h.sp.bel.trans (hb.mono (by omega))⟩, h.hM,
    ⟨Nat.lt_of_lt_of_le h.ins.1 hb.size, fun j => by rw [hb.cell (by show M < M + 1 + 1; omega)]; exact h.ins.2 j⟩, h.bad.upTo hb (by omega)⟩

theorem SpR.grown {w wr w1 : World} {prg : Value} {s : HS} {M : Nat} {op a : Int} {bad : List Int} {row : Option Nat} (h : SpR w wr prg s M op a bad) (hg : wr.grownBy w1 row) (hr : ∀ j, row = some j → M + 1 + 1 ≤ j) : SpR w w1 prg s M op a bad :=
  h.upTo ((Below.refl _ _).grown hg h.bad.1 hr)

theorem SpR.setH {w wr : World} {prg : Value} {s : HS} {M : Nat} {op a : Int} {bad : List Int} (h : SpR w wr prg s M op a bad) (k : Nat) (x : Int) (hk : k < s.h.length) : SpR w (wr.setCell ⟨w.heap.size + 1 + 1, k, none⟩ (.int .i64 x)) prg ⟨s.h.set k x, s.wt⟩ M op a bad :=
  ⟨h.sp.setH k x hk, h.hM, h.ins.set_far _ _ (by have := h.hM; show w.heap.size + 1 + 1 ≠ M; omega), h.bad.set_far _ _ (by have := h.hM; show w.heap.size + 1 + 1 ≠ M + 1; omega)⟩

theorem SpR.setW {w wr : World} {prg : Value} {s : HS} {M : Nat} {op a : Int} {bad : List Int} (h : SpR w wr prg s M op a bad) (k : Nat) (x : Bool) (hk : k < s.wt.length) : SpR w (wr.setCell ⟨w.heap.size + 1 + 1 + 1, k, none⟩ (.bool x)) prg ⟨s.h, s.wt.set k x⟩ M op a bad :=
  ⟨h.sp.setW k x hk, h.hM, h.ins.set_far _ _ (by have := h.hM; show w.heap.size + 1 + 1 + 1 ≠ M; omega), h.bad.set_far _ _ (by have := h.hM; show w.heap.size + 1 + 1 + 1 ≠ M + 1; omega)⟩

theorem SpR.setBad {w wr : World} {prg : Value} {s : HS} {M : Nat} {op a x y : Int} (h : SpR w wr prg s M op a [x, y, 5]) : SpR w (wr.setCell ⟨M + 1, 2, none⟩ (.int .i64 6)) prg s M op a [x, y, 6] :=
  have hz := h.hM
  ⟨⟨h.sp.box.set_far _ _ (by show M + 1 ≠ w.heap.size; omega), h.sp.res.set_far _ _ (by show M + 1 ≠ w.heap.size + 1; omega), h.sp.hh.set_far _ _ (by show M + 1 ≠ w.heap.size + 1 + 1; omega), h.sp.ww.set_far _ _ (by show M + 1 ≠ w.heap.size + 1 + 1 + 1; omega), h.sp.bel.setCell (by show w.heap.size ≤ M + 1; omega) _⟩, hz,
    h.ins.set_far _ _ (by show M + 1 ≠ M; omega), by have := h.bad.set_at 2 (.int .i64 6) (by simp [ints]); rwa [ints_set] at this⟩

theorem leaves_eq (p : List FnM) (h op a : Int) : IntKind.i64.wrap (IntKind.i64.wrap (h - takesM p op a) + (opRow op).2.2.2) = leaves p h (op, a) := by simp only [IntKind.wrap_i64, leaves, wrap64, putsM]

theorem goesTo_eq (k : Nat) (op a : Int) : goesTo k (op, a) = (if op = 30 ∨ op = 33 then [] else [(k : Int) + 1]) ++ (if op = 30 ∨ op = 31 then [a] else []) := rfl

theorem goOn_cons (next t : Int) (ts : List Int) (s : HS) : goOn next (t :: ts) s = if (s.h.length : Int) ≤ t then .inr 6
    else if 0 ≤ s.h.getD t.toNat 0 ∧ s.h.getD t.toNat 0 ≠ next then .inr 5
    else if s.h.getD t.toNat 0 < 0 then goOn next ts ⟨s.h.set t.toNat next, s.wt.set t.toNat true⟩
    else goOn next ts s := rfl

theorem goOn_snoc {next : Int} (t : Int) : ∀ (l : List Int) (s : HS), goOn next (l ++ [t]) s = (match goOn next l s with | .inl s' => goOn next [t] s' | .inr c => .inr c)
  | [], s => rfl
  | x :: l, s => by
    rw [List.cons_append, goOn_cons next x (l ++ [t]), goOn_cons next x l]
    by_cases h1 : (s.h.length : Int) ≤ x
    · rw [if_pos h1, if_pos h1]
    · rw [if_neg h1, if_neg h1]
      by_cases h2 : 0 ≤ s.h.getD x.toNat 0 ∧ s.h.getD x.toNat 0 ≠ next
      · rw [if_pos h2, if_pos h2]
      · rw [if_neg h2, if_neg h2]
        by_cases h3 : s.h.getD x.toNat 0 < 0
        · rw [if_pos h3, if_pos h3]; exact goOn_snoc t l _
        · rw [if_neg h3, if_neg h3]; exact goOn_snoc t l _

theorem goOn_fault {next : Int} {c : Int} (l' : List Int) : ∀ (l : List Int) (s : HS), goOn next l s = .inr c → goOn next (l ++ l') s = .inr c
  | [], s, h => by cases h
  | x :: l, s, h => by
    rw [List.cons_append, goOn_cons next x (l ++ l')]
    rw [goOn_cons next x l] at h
    by_cases h1 : (s.h.length : Int) ≤ x
    · rw [if_pos h1] at h ⊢; exact h
    · rw [if_neg h1] at h ⊢
      by_cases h2 : 0 ≤ s.h.getD x.toNat 0 ∧ s.h.getD x.toNat 0 ≠ next
      · rw [if_pos h2] at h ⊢; exact h
      · rw [if_neg h2] at h ⊢
        by_cases h3 : s.h.getD x.toNat 0 < 0
        · rw [if_pos h3] at h ⊢; exact goOn_fault l' l _ h
        · rw [if_neg h3] at h ⊢; exact goOn_fault l' l _ h

theorem goOn_take {next : Int} {ts : List Int} {s s2 : HS} {q : Nat} (hq : q < ts.length) (h : goOn next (ts.take q) s = .inl s2) : goOn next (ts.take (q + 1)) s = goOn next [ts[q]] s2 := by
  rw [List.take_succ_eq_append_getElem hq, goOn_snoc, h]

theorem goOn_take_fault {next : Int} {ts : List Int} {s s2 : HS} {q : Nat} {c : Int} (hq : q < ts.length) (h : goOn next (ts.take q) s = .inl s2) (hf : goOn next [ts[q]] s2 = .inr c) : goOn next ts s = .inr c := by
  rw [← List.take_append_drop (q + 1) ts]
  exact goOn_fault _ _ _ (by rw [goOn_take hq h, hf])

theorem start_hok {n : Nat} (h1 : 1 ≤ n) : HOk n (startH n) := by
  refine ⟨by simp [startH], by simp [startH], fun j hj hw => ?_⟩
  have hw' : ((List.replicate n false).set 0 true).getD j false = true := hw
  show HV (((List.replicate n (-1 : Int)).set 0 0).getD j 0)
  rw [getD_set _ _ _ _ _ (by rw [List.length_replicate]; omega)] at hw' ⊢
  split
  · exact .inl (by omega)
  · rename_i hne
    rw [if_neg hne] at hw'
    simp [List.getD, List.getElem?_replicate] at hw'
    split at hw' <;> simp at hw'

end Go.Proofs.YtijgonjnmibifaaGreatDoor
