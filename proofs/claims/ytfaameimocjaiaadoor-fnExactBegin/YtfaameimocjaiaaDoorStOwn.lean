/- A state in memory of the call's own: each cell of its lists belongs to one list; what is written to one list changes no other. -/
import Derived.Test.YtfaameimocjaiaaDoorSt
namespace Go.Proofs.YtfaameimocjaiaaDoor
open Go.RowKit

/-- the lists of a state -/
inductive Tag where
  | no | fr | hp | out
  | loc (i : Nat) | stk (i : Nat) | arr (i : Nat)
  deriving DecidableEq

/-- what a call has written: nothing but cells of S, in blocks from B on -/
structure Wrote (B : Nat) (S : Nat → Nat → Prop) (w w' : World) : Prop where
  os : w'.os = w.os
  tape : w'.tape = w.tape
  output : w'.output = w.output
  size : w'.heap.size = w.heap.size
  low : ∀ b, b < B → w'.heap[b]? = w.heap[b]?
  cell : ∀ b j, ¬ S b j → w'.cell? ⟨b, j, none⟩ = w.cell? ⟨b, j, none⟩
  is : ∀ b j, (w.cell? ⟨b, j, none⟩).isSome = true → (w'.cell? ⟨b, j, none⟩).isSome = true
  thaw : ∀ b j, w'.frozen? ⟨b, j, none⟩ = w.frozen? ⟨b, j, none⟩

theorem Wrote.refl (B : Nat) (S : Nat → Nat → Prop) (w : World) : Wrote B S w w := ⟨rfl, rfl, rfl, rfl, fun _ _ => rfl, fun _ _ _ => rfl, fun _ _ h => h, fun _ _ => rfl⟩
theorem Wrote.trans {B : Nat} {S : Nat → Nat → Prop} {a b c : World} (h : Wrote B S a b) (k : Wrote B S b c) : Wrote B S a c :=
  ⟨k.os.trans h.os, k.tape.trans h.tape, k.output.trans h.output, k.size.trans h.size, fun i hi => (k.low i hi).trans (h.low i hi), fun i j hs => (k.cell i j hs).trans (h.cell i j hs), fun i j hi => k.is i j (h.is i j hi), fun i j => (k.thaw i j).trans (h.thaw i j)⟩
theorem Wrote.mono {B : Nat} {S S' : Nat → Nat → Prop} {a b : World} (h : Wrote B S a b) (hs : ∀ i j, S i j → S' i j) : Wrote B S' a b :=
  ⟨h.os, h.tape, h.output, h.size, h.low, fun i j hn => h.cell i j (fun k => hn (hs i j k)), h.is, h.thaw⟩
theorem Wrote.below {B : Nat} {S : Nat → Nat → Prop} {a b : World} (h : Wrote B S a b) : Below B a b := ⟨h.os, h.tape, h.output, Nat.le_of_eq h.size.symm, h.low⟩
theorem Wrote.set {B : Nat} {S : Nat → Nat → Prop} (w : World) (b j : Nat) (u : Value) (hS : S b j) (hB : B ≤ b) : Wrote B S w (w.setCell ⟨b, j, none⟩ u) := by
  refine ⟨rfl, rfl, rfl, by simp, fun i hi => Below.heap_setCell w _ _ i (fun e => by simp at e; omega), fun i k hn => ?_, fun i k hi => ?_, fun i k => by simp⟩
  · exact World.cell?_setCell_other _ _ _ _ (by intro e; simp at e; obtain ⟨rfl, rfl⟩ := e; exact hn hS)
  · by_cases e : (⟨i, k, none⟩ : Addr) = ⟨b, j, none⟩
    · rw [e] at hi ⊢
      obtain ⟨z, hz⟩ := Option.isSome_iff_exists.1 hi
      rw [World.cell?_setCell_same _ _ _ hz]
      rfl
    · rw [World.cell?_setCell_other _ _ _ _ (fun h => e h.symm)]
      exact hi

/-- all of a slice's room belongs to one list, and may be written -/
def Room (own : Nat → Nat → Tag) (B : Nat) (w : World) (v : Value) (size : Nat) (t : Tag) : Prop :=
  ∃ A n cap, v = .slice A n cap ∧ n ≤ cap ∧ ∀ j, j < cap * size → ∃ b off, A = some ⟨b, off, none⟩ ∧ B ≤ b ∧ b < w.heap.size ∧ (w.cell? ⟨b, off + j, none⟩).isSome = true ∧ w.frozen? ⟨b, off + j, none⟩ = false ∧ own b (off + j) = t

theorem Room.wrote {own : Nat → Nat → Tag} {B B' size : Nat} {w w' : World} {v : Value} {t : Tag} {S : Nat → Nat → Prop} (h : Room own B w v size t) (hw : Wrote B' S w w') : Room own B w' v size t := by
  obtain ⟨A, n, cap, rfl, hn, hr⟩ := h
  refine ⟨A, n, cap, rfl, hn, fun j hj => ?_⟩
  obtain ⟨b, off, h1, h2, h3, h4, h5, h6⟩ := hr j hj
  exact ⟨b, off, h1, h2, by rw [hw.size]; exact h3, hw.is _ _ h4, by rw [hw.thaw]; exact h5, h6⟩

theorem Room.below {own : Nat → Nat → Tag} {B size : Nat} {w w' : World} {v : Value} {t : Tag} (h : Room own B w v size t) (hb : Below w.heap.size w w') : Room own B w' v size t := by
  obtain ⟨A, n, cap, rfl, hn, hr⟩ := h
  refine ⟨A, n, cap, rfl, hn, fun j hj => ?_⟩
  obtain ⟨b, off, h1, h2, h3, h4, h5, h6⟩ := hr j hj
  exact ⟨b, off, h1, h2, Nat.lt_of_lt_of_le h3 hb.size, by rw [hb.cell (by exact h3)]; exact h4, by rw [hb.frozen (by exact h3)]; exact h5, h6⟩

/-- a slice of numbers, kept where other lists are written -/
theorem IRow.wrote {own : Nat → Nat → Tag} {B B' : Nat} {w w' : World} {v : Value} {zs : List Int} {t : Tag} {S : Nat → Nat → Prop} (h : IRow B w v zs) (hr : Room own B w v 1 t) (hw : Wrote B' S w w') (hS : ∀ b j, S b j → own b j ≠ t) : IRow B w' v zs := by
  obtain ⟨A, cap, rfl, hn, hc⟩ := h
  obtain ⟨A', n', cap', he, hn', hr⟩ := hr
  simp only [Value.slice.injEq] at he
  obtain ⟨rfl, rfl, rfl⟩ := he
  refine ⟨A, cap, rfl, hn, fun i hi => ?_⟩
  obtain ⟨b, off, rfl, h1, h2, h3⟩ := hc i hi
  obtain ⟨b', off', e, _, _, _, _, h6⟩ := hr i (by omega)
  simp only [Option.some.injEq, Addr.mk.injEq, and_true] at e
  obtain ⟨rfl, rfl⟩ := e
  exact ⟨b, off, rfl, h1, by rw [hw.size]; exact h2, by rw [hw.cell b (off + i) (fun hs => hS _ _ hs h6)]; exact h3⟩

/-- frames of the call's own; X, Y: the slices of their locals and stacks -/
structure OwnFr (own : Nat → Nat → Tag) (B : Nat) (w : World) (x : Value) (fs : List FrM) (X Y : Nat → Value) : Prop where
  len : fs.length ≤ 1048576
  form : ∃ A cap, x = .slice A fs.length cap
  room : Room own B w x 4 .fr
  head : ∀ i (h : i < fs.length), ∃ b off cap, x = .slice (some ⟨b, off, none⟩) fs.length cap ∧ w.cell? ⟨b, off + i * 4, none⟩ = some (.int .i64 fs[i].func) ∧ w.cell? ⟨b, off + i * 4 + 1, none⟩ = some (.int .i64 fs[i].pc) ∧ w.cell? ⟨b, off + i * 4 + 2, none⟩ = some (X i) ∧ w.cell? ⟨b, off + i * 4 + 3, none⟩ = some (Y i)
  loc : ∀ i (h : i < fs.length), IRow B w (X i) fs[i].locals ∧ Room own B w (X i) 1 (.loc i)
  stk : ∀ i (h : i < fs.length), IRow B w (Y i) fs[i].stack ∧ Room own B w (Y i) 1 (.stk i)

/-- where a frame's four cells lie -/
theorem OwnFr.at {own : Nat → Nat → Tag} {B : Nat} {w : World} {x : Value} {fs : List FrM} {X Y : Nat → Value} (h : OwnFr own B w x fs X Y) (i : Nat) (hi : i < fs.length) :
    ∃ b off cap, x = .slice (some ⟨b, off, none⟩) fs.length cap ∧ B ≤ b ∧ b < w.heap.size ∧ w.cell? ⟨b, off + i * 4, none⟩ = some (.int .i64 fs[i].func) ∧ w.cell? ⟨b, off + i * 4 + 1, none⟩ = some (.int .i64 fs[i].pc) ∧ w.cell? ⟨b, off + i * 4 + 2, none⟩ = some (X i) ∧ w.cell? ⟨b, off + i * 4 + 3, none⟩ = some (Y i) ∧ ∀ q, q < 4 → w.frozen? ⟨b, off + i * 4 + q, none⟩ = false ∧ own b (off + i * 4 + q) = .fr := by
  obtain ⟨b, off, cap, rfl, h1, h2, h3, h4⟩ := h.head i hi
  obtain ⟨A', n', cap', he, hn', hr⟩ := h.room
  simp only [Value.slice.injEq] at he
  obtain ⟨rfl, rfl, rfl⟩ := he
  have hall : ∀ q, q < 4 → B ≤ b ∧ b < w.heap.size ∧ w.frozen? ⟨b, off + i * 4 + q, none⟩ = false ∧ own b (off + i * 4 + q) = .fr := fun q hq => by
    obtain ⟨b', off', e, k1, k2, _, k4, k5⟩ := hr (i * 4 + q) (by omega)
    simp only [Option.some.injEq, Addr.mk.injEq, and_true] at e
    obtain ⟨rfl, rfl⟩ := e
    rw [← Nat.add_assoc] at k4 k5
    exact ⟨k1, k2, k4, k5⟩
  obtain ⟨k1, k2, _, _⟩ := hall 0 (by omega)
  exact ⟨b, off, cap, rfl, k1, k2, h1, h2, h3, h4, fun q hq => ⟨(hall q hq).2.2.1, (hall q hq).2.2.2⟩⟩

theorem OwnFr.row {own : Nat → Nat → Tag} {B : Nat} {w : World} {x : Value} {fs : List FrM} {X Y : Nat → Value} (h : OwnFr own B w x fs X Y) : FrRow B w x fs := by
  obtain ⟨A, cap, rfl⟩ := h.form
  refine ⟨A, cap, rfl, by have := h.len; omega, fun i hi => ?_⟩
  obtain ⟨b, off, cap', e, h1, h2, h3, h4, h5, h6, _⟩ := h.at i hi
  simp only [Value.slice.injEq] at e
  obtain ⟨rfl, _, _⟩ := e
  exact ⟨b, off, X i, Y i, rfl, h1, h2, h3, h4, h5, h6, (h.loc i hi).1, (h.stk i hi).1⟩

theorem OwnFr.below {own : Nat → Nat → Tag} {B : Nat} {w w' : World} {x : Value} {fs : List FrM} {X Y : Nat → Value} (h : OwnFr own B w x fs X Y) (hb : Below w.heap.size w w') : OwnFr own B w' x fs X Y := by
  refine ⟨h.len, h.form, h.room.below hb, fun i hi => ?_, fun i hi => ⟨(h.loc i hi).1.below hb, (h.loc i hi).2.below hb⟩, fun i hi => ⟨(h.stk i hi).1.below hb, (h.stk i hi).2.below hb⟩⟩
  obtain ⟨b, off, cap, e, h1, h2, h3, h4, h5, h6, _⟩ := h.at i hi
  exact ⟨b, off, cap, e, by rw [hb.cell (by exact h2)]; exact h3, by rw [hb.cell (by exact h2)]; exact h4, by rw [hb.cell (by exact h2)]; exact h5, by rw [hb.cell (by exact h2)]; exact h6⟩

/-- where what is written is neither theirs nor their lists' -/
theorem OwnFr.wrote {own : Nat → Nat → Tag} {B B' : Nat} {w w' : World} {x : Value} {fs : List FrM} {X Y : Nat → Value} {S : Nat → Nat → Prop} (h : OwnFr own B w x fs X Y) (hw : Wrote B' S w w') (hS : ∀ b j, S b j → own b j ≠ .fr ∧ ∀ i, own b j ≠ .loc i ∧ own b j ≠ .stk i) : OwnFr own B w' x fs X Y := by
  refine ⟨h.len, h.form, h.room.wrote hw, fun i hi => ?_, fun i hi => ⟨(h.loc i hi).1.wrote (h.loc i hi).2 hw (fun b j hs => ((hS b j hs).2 i).1), (h.loc i hi).2.wrote hw⟩, fun i hi => ⟨(h.stk i hi).1.wrote (h.stk i hi).2 hw (fun b j hs => ((hS b j hs).2 i).2), (h.stk i hi).2.wrote hw⟩⟩
  obtain ⟨b, off, cap, e, h1, h2, h3, h4, h5, h6, h7⟩ := h.at i hi
  have hc : ∀ q, q < 4 → w'.cell? ⟨b, off + i * 4 + q, none⟩ = w.cell? ⟨b, off + i * 4 + q, none⟩ := fun q hq => hw.cell _ _ (fun hs => (hS _ _ hs).1 (h7 q hq).2)
  exact ⟨b, off, cap, e, by have := hc 0 (by omega); rw [Nat.add_zero] at this; rw [this]; exact h3, by rw [hc 1 (by omega)]; exact h4, by rw [hc 2 (by omega)]; exact h5, by rw [hc 3 (by omega)]; exact h6⟩

/-- a frame's locals are written -/
theorem OwnFr.setLoc {own : Nat → Nat → Tag} {B B' : Nat} {w w' : World} {x : Value} {fs : List FrM} {X Y : Nat → Value} (h : OwnFr own B w x fs X Y) (q : Nat) (hq : q < fs.length) (hw : Wrote B' (fun b j => own b j = .loc q) w w') (l : List Int) (hl : IRow B w' (X q) l) : OwnFr own B w' x (fs.set q ⟨fs[q].func, fs[q].pc, l, fs[q].stack⟩) X Y := by
  have hg : ∀ i (hi : i < (fs.set q ⟨fs[q].func, fs[q].pc, l, fs[q].stack⟩).length), (fs.set q ⟨fs[q].func, fs[q].pc, l, fs[q].stack⟩)[i].func = (fs[i]'(by simpa using hi)).func ∧ (fs.set q ⟨fs[q].func, fs[q].pc, l, fs[q].stack⟩)[i].pc = (fs[i]'(by simpa using hi)).pc ∧ (fs.set q ⟨fs[q].func, fs[q].pc, l, fs[q].stack⟩)[i].stack = (fs[i]'(by simpa using hi)).stack := fun i hi => by
    rw [List.getElem_set]
    split
    · rename_i e; subst e; exact ⟨rfl, rfl, rfl⟩
    · exact ⟨rfl, rfl, rfl⟩
  refine ⟨by simpa using h.len, by simpa using h.form, h.room.wrote hw, fun i hi => ?_, fun i hi => ?_, fun i hi => ?_⟩
  · have hi' : i < fs.length := by simpa using hi
    obtain ⟨g1, g2, _⟩ := hg i hi
    obtain ⟨b, off, cap, e, h1, h2, h3, h4, h5, h6, h7⟩ := h.at i hi'
    have hc : ∀ q', q' < 4 → w'.cell? ⟨b, off + i * 4 + q', none⟩ = w.cell? ⟨b, off + i * 4 + q', none⟩ := fun q' hq' => hw.cell _ _ (fun hs => by rw [(h7 q' hq').2] at hs; cases hs)
    rw [g1, g2]
    exact ⟨b, off, cap, by simpa using e, by have := hc 0 (by omega); rw [Nat.add_zero] at this; rw [this]; exact h3, by rw [hc 1 (by omega)]; exact h4, by rw [hc 2 (by omega)]; exact h5, by rw [hc 3 (by omega)]; exact h6⟩
  · have hi' : i < fs.length := by simpa using hi
    refine ⟨?_, (h.loc i hi').2.wrote hw⟩
    rw [List.getElem_set]
    split
    · rename_i e; subst e; exact hl
    · rename_i e; exact (h.loc i hi').1.wrote (h.loc i hi').2 hw (fun b j hs => by rw [hs]; intro k; cases k; exact e rfl)
  · have hi' : i < fs.length := by simpa using hi
    rw [(hg i hi).2.2]
    exact ⟨(h.stk i hi').1.wrote (h.stk i hi').2 hw (fun b j hs => by rw [hs]; intro k; cases k), (h.stk i hi').2.wrote hw⟩

/-- .. its stack -/
theorem OwnFr.setStk {own : Nat → Nat → Tag} {B B' : Nat} {w w' : World} {x : Value} {fs : List FrM} {X Y : Nat → Value} (h : OwnFr own B w x fs X Y) (q : Nat) (hq : q < fs.length) (hw : Wrote B' (fun b j => own b j = .stk q) w w') (l : List Int) (hl : IRow B w' (Y q) l) : OwnFr own B w' x (fs.set q ⟨fs[q].func, fs[q].pc, fs[q].locals, l⟩) X Y := by
  have hg : ∀ i (hi : i < (fs.set q ⟨fs[q].func, fs[q].pc, fs[q].locals, l⟩).length), (fs.set q ⟨fs[q].func, fs[q].pc, fs[q].locals, l⟩)[i].func = (fs[i]'(by simpa using hi)).func ∧ (fs.set q ⟨fs[q].func, fs[q].pc, fs[q].locals, l⟩)[i].pc = (fs[i]'(by simpa using hi)).pc ∧ (fs.set q ⟨fs[q].func, fs[q].pc, fs[q].locals, l⟩)[i].locals = (fs[i]'(by simpa using hi)).locals := fun i hi => by
    rw [List.getElem_set]
    split
    · rename_i e; subst e; exact ⟨rfl, rfl, rfl⟩
    · exact ⟨rfl, rfl, rfl⟩
  refine ⟨by simpa using h.len, by simpa using h.form, h.room.wrote hw, fun i hi => ?_, fun i hi => ?_, fun i hi => ?_⟩
  · have hi' : i < fs.length := by simpa using hi
    obtain ⟨g1, g2, _⟩ := hg i hi
    obtain ⟨b, off, cap, e, h1, h2, h3, h4, h5, h6, h7⟩ := h.at i hi'
    have hc : ∀ q', q' < 4 → w'.cell? ⟨b, off + i * 4 + q', none⟩ = w.cell? ⟨b, off + i * 4 + q', none⟩ := fun q' hq' => hw.cell _ _ (fun hs => by rw [(h7 q' hq').2] at hs; cases hs)
    rw [g1, g2]
    exact ⟨b, off, cap, by simpa using e, by have := hc 0 (by omega); rw [Nat.add_zero] at this; rw [this]; exact h3, by rw [hc 1 (by omega)]; exact h4, by rw [hc 2 (by omega)]; exact h5, by rw [hc 3 (by omega)]; exact h6⟩
  · have hi' : i < fs.length := by simpa using hi
    rw [(hg i hi).2.2]
    exact ⟨(h.loc i hi').1.wrote (h.loc i hi').2 hw (fun b j hs => by rw [hs]; intro k; cases k), (h.loc i hi').2.wrote hw⟩
  · have hi' : i < fs.length := by simpa using hi
    refine ⟨?_, (h.stk i hi').2.wrote hw⟩
    rw [List.getElem_set]
    split
    · rename_i e; subst e; exact hl
    · rename_i e; exact (h.stk i hi').1.wrote (h.stk i hi').2 hw (fun b j hs => by rw [hs]; intro k; cases k; exact e rfl)

/-- .. its function and place -/
theorem OwnFr.setFunc {own : Nat → Nat → Tag} {B b off n cap : Nat} {w : World} {fs : List FrM} {X Y : Nat → Value} (h : OwnFr own B w (.slice (some ⟨b, off, none⟩) n cap) fs X Y) (q : Nat) (hq : q < fs.length) (u : Int) : OwnFr own B (w.setCell ⟨b, off + q * 4, none⟩ (.int .i64 u)) (.slice (some ⟨b, off, none⟩) n cap) (fs.set q ⟨u, fs[q].pc, fs[q].locals, fs[q].stack⟩) X Y ∧ Wrote B (fun b j => own b j = .fr) w (w.setCell ⟨b, off + q * 4, none⟩ (.int .i64 u)) := by
  obtain ⟨b0, off0, cap0, e0, hB, hlt, c0, c1, c2, c3, h7⟩ := h.at q hq
  simp only [Value.slice.injEq, Option.some.injEq, Addr.mk.injEq, and_true] at e0
  obtain ⟨⟨rfl, rfl⟩, hn0, rfl⟩ := e0
  have hw : Wrote B (fun b j => own b j = .fr) w (w.setCell ⟨b, off + q * 4, none⟩ (.int .i64 u)) := Wrote.set _ _ _ _ (by have := (h7 0 (by omega)).2; rwa [Nat.add_zero] at this) hB
  refine ⟨⟨by simpa using h.len, by simpa using h.form, h.room.wrote hw, fun i hi => ?_, fun i hi => ?_, fun i hi => ?_⟩, hw⟩
  · have hi' : i < fs.length := by simpa using hi
    obtain ⟨b1, off1, cap1, e, _, _, h3, h4, h5, h6, _⟩ := h.at i hi'
    simp only [Value.slice.injEq, Option.some.injEq, Addr.mk.injEq, and_true] at e
    obtain ⟨⟨rfl, rfl⟩, _, rfl⟩ := e
    refine ⟨b, off, cap, by simp [hn0], ?_, ?_, by rw [cell_set_far _ _ _ _ _ (by omega)]; exact h5, by rw [cell_set_far _ _ _ _ _ (by omega)]; exact h6⟩
    · by_cases e : q = i
      · subst e; rw [World.cell?_setCell_same _ _ _ c0]; simp
      · rw [cell_set_far _ _ _ _ _ (by omega), List.getElem_set, if_neg e]; exact h3
    · rw [cell_set_far _ _ _ _ _ (by omega), List.getElem_set]
      split
      · rename_i e; subst e; exact h4
      · exact h4
  · have hi' : i < fs.length := by simpa using hi
    have e : (fs.set q ⟨u, fs[q].pc, fs[q].locals, fs[q].stack⟩)[i].locals = fs[i].locals := by rw [List.getElem_set]; split; (rename_i e; subst e; rfl); rfl
    rw [e]
    exact ⟨(h.loc i hi').1.wrote (h.loc i hi').2 hw (fun b j hs => by rw [hs]; intro k; cases k), (h.loc i hi').2.wrote hw⟩
  · have hi' : i < fs.length := by simpa using hi
    have e : (fs.set q ⟨u, fs[q].pc, fs[q].locals, fs[q].stack⟩)[i].stack = fs[i].stack := by rw [List.getElem_set]; split; (rename_i e; subst e; rfl); rfl
    rw [e]
    exact ⟨(h.stk i hi').1.wrote (h.stk i hi').2 hw (fun b j hs => by rw [hs]; intro k; cases k), (h.stk i hi').2.wrote hw⟩

theorem OwnFr.setPc {own : Nat → Nat → Tag} {B b off n cap : Nat} {w : World} {fs : List FrM} {X Y : Nat → Value} (h : OwnFr own B w (.slice (some ⟨b, off, none⟩) n cap) fs X Y) (q : Nat) (hq : q < fs.length) (u : Int) : OwnFr own B (w.setCell ⟨b, off + q * 4 + 1, none⟩ (.int .i64 u)) (.slice (some ⟨b, off, none⟩) n cap) (fs.set q ⟨fs[q].func, u, fs[q].locals, fs[q].stack⟩) X Y ∧ Wrote B (fun b j => own b j = .fr) w (w.setCell ⟨b, off + q * 4 + 1, none⟩ (.int .i64 u)) := by
  obtain ⟨b0, off0, cap0, e0, hB, hlt, c0, c1, c2, c3, h7⟩ := h.at q hq
  simp only [Value.slice.injEq, Option.some.injEq, Addr.mk.injEq, and_true] at e0
  obtain ⟨⟨rfl, rfl⟩, hn0, rfl⟩ := e0
  have hw : Wrote B (fun b j => own b j = .fr) w (w.setCell ⟨b, off + q * 4 + 1, none⟩ (.int .i64 u)) := Wrote.set _ _ _ _ (h7 1 (by omega)).2 hB
  refine ⟨⟨by simpa using h.len, by simpa using h.form, h.room.wrote hw, fun i hi => ?_, fun i hi => ?_, fun i hi => ?_⟩, hw⟩
  · have hi' : i < fs.length := by simpa using hi
    obtain ⟨b1, off1, cap1, e, _, _, h3, h4, h5, h6, _⟩ := h.at i hi'
    simp only [Value.slice.injEq, Option.some.injEq, Addr.mk.injEq, and_true] at e
    obtain ⟨⟨rfl, rfl⟩, _, rfl⟩ := e
    refine ⟨b, off, cap, by simp [hn0], ?_, ?_, by rw [cell_set_far _ _ _ _ _ (by omega)]; exact h5, by rw [cell_set_far _ _ _ _ _ (by omega)]; exact h6⟩
    · rw [cell_set_far _ _ _ _ _ (by omega), List.getElem_set]
      split
      · rename_i e; subst e; exact h3
      · exact h3
    · by_cases e : q = i
      · subst e; rw [World.cell?_setCell_same _ _ _ c1]; simp
      · rw [cell_set_far _ _ _ _ _ (by omega), List.getElem_set, if_neg e]; exact h4
  · have hi' : i < fs.length := by simpa using hi
    have e : (fs.set q ⟨fs[q].func, u, fs[q].locals, fs[q].stack⟩)[i].locals = fs[i].locals := by rw [List.getElem_set]; split; (rename_i e; subst e; rfl); rfl
    rw [e]
    exact ⟨(h.loc i hi').1.wrote (h.loc i hi').2 hw (fun b j hs => by rw [hs]; intro k; cases k), (h.loc i hi').2.wrote hw⟩
  · have hi' : i < fs.length := by simpa using hi
    have e : (fs.set q ⟨fs[q].func, u, fs[q].locals, fs[q].stack⟩)[i].stack = fs[i].stack := by rw [List.getElem_set]; split; (rename_i e; subst e; rfl); rfl
    rw [e]
    exact ⟨(h.stk i hi').1.wrote (h.stk i hi').2 hw (fun b j hs => by rw [hs]; intro k; cases k), (h.stk i hi').2.wrote hw⟩
end Go.Proofs.YtfaameimocjaiaaDoor
