/- A drawn program in memory of its own: a slice of functions, each with its code in a block of its own. -/
import Derived.Test.YtljhoplcfoiiiaaDoorGenS
import Derived.Test.YtljhoplcfoiiiaaDoorVRow
import Derived.Deep.AppendLies
import Derived.Deep.RegionLaw
namespace Go.Proofs.YtljhoplcfoiiiaaDoor
open Go.RowKit

structure GF where
  args : Int
  locals : Int
  b : Nat
  cap : Nat
  code : List (Int × Int)

def GF.fn (f : GF) : FnM := ⟨f.args, f.locals, f.code⟩
def GF.sl (f : GF) : Value := .slice (some ⟨f.b, 0, none⟩) f.code.length f.cap
def fnCells : List GF → List Value
  | [] => []
  | f :: r => .int .i64 f.args :: .int .i64 f.locals :: f.sl :: fnCells r

theorem fnCells_length (fs : List GF) : (fnCells fs).length = fs.length * 3 := by
  induction fs with
  | nil => rfl
  | cons x c ih => simp [fnCells, ih]; omega

theorem fnCells_append (c d : List GF) : fnCells (c ++ d) = fnCells c ++ fnCells d := by
  induction c with
  | nil => rfl
  | cons x c ih => simp [fnCells, ih]

theorem fnCells_get (c : List GF) (i : Nat) (h : i < c.length) : (fnCells c)[i * 3]? = some (.int .i64 c[i].args) ∧ (fnCells c)[i * 3 + 1]? = some (.int .i64 c[i].locals) ∧ (fnCells c)[i * 3 + 2]? = some c[i].sl := by
  induction c generalizing i with
  | nil => simp at h
  | cons x c ih =>
    cases i with
    | zero => simp [fnCells]
    | succ i =>
      have := ih i (by simpa using h)
      rw [show (i + 1) * 3 = i * 3 + 1 + 1 + 1 by omega]
      simpa [fnCells] using this

theorem fnCells_set (c : List GF) (i : Nat) (f : GF) (h : i < c.length) : (((fnCells c).set (i * 3) (.int .i64 f.args)).set (i * 3 + 1) (.int .i64 f.locals)).set (i * 3 + 2) f.sl = fnCells (c.set i f) := by
  induction c generalizing i with
  | nil => simp at h
  | cons x c ih =>
    cases i with
    | zero => simp [fnCells]
    | succ i =>
      have := ih i (by simpa using h)
      rw [show (i + 1) * 3 = i * 3 + 1 + 1 + 1 by omega]
      simp [fnCells, this]

/-- a drawn program's functions, in blocks from base on -/
structure Fs (base : Nat) (w : World) (vF : Value) (fs : List GF) : Prop where
  row : w.ownsRow base 56 3 vF fs.length (fnCells fs)
  each : ∀ f ∈ fs, w.ownsRow base 65 2 f.sl f.code.length (insCells f.code) ∧ f.fn.ok ∧ -1000 ≤ f.args ∧ f.code.length ≤ 20000

theorem own_kept {w w' : World} {base e s n : Nat} {v : Value} {xs : List Value} (h : w.ownsRow base e s v n xs) (hb : ∀ b, v.ownBlock = some b → w'.heap[b]? = w.heap[b]?) : w'.ownsRow base e s v n xs := by
  obtain ⟨h1, h2⟩ := h
  refine ⟨h1, ?_⟩
  rcases h2 with h | ⟨g, cap, cur, rfl, a1, a2, a3⟩
  · exact .inl h
  · exact .inr ⟨g, cap, cur, rfl, a1, by rw [hb g rfl]; exact a2, a3⟩

theorem InsRow.of_owns {B : Nat} {w : World} {v : Value} {c : List (Int × Int)} (h : w.ownsRow B 65 2 v c.length (insCells c)) (hn : c.length ≤ 9223372036854775807) : InsRow B w v c := by
  have h' := h
  obtain ⟨h1, h2⟩ := h
  rcases h2 with ⟨rfl, h0⟩ | ⟨g, cap, cur, rfl, hb, hh, hn', hm, hs, ht⟩
  · exact ⟨none, 0, by rw [h0], hn, fun i hi => by omega⟩
  · refine ⟨_, cap, rfl, hn, fun i hi => ⟨g, 0, rfl, hb, (Array.getElem?_eq_some_iff.1 hh).1, ?_, ?_⟩⟩
    · rw [Nat.zero_add, h'.cellAt (i * 2) (by omega)]; exact (insCells_get c i hi).1
    · rw [Nat.zero_add, h'.cellAt (i * 2 + 1) (by omega)]; exact (insCells_get c i hi).2

theorem Fs.fnRow {base : Nat} {w : World} {vF : Value} {fs : List GF} (h : Fs base w vF fs) (hn : fs.length ≤ 1000) : FnRow base w vF (fs.map GF.fn) := by
  have hr := h.row
  obtain ⟨h1, h2⟩ := h.row
  rcases h2 with ⟨rfl, h0⟩ | ⟨g, cap, cur, rfl, hb, hh, hn', hm, hs, ht⟩
  · exact ⟨none, 0, by simp [h0], by simp; omega, fun i hi => by simp at hi; omega⟩
  · refine ⟨some ⟨g, 0, none⟩, cap, by simp, by simp; omega, fun i hi => ?_⟩
    have hi' : i < fs.length := by simpa using hi
    obtain ⟨c0, c1, c2⟩ := fnCells_get fs i hi'
    obtain ⟨e1, e2, e3, e4⟩ := h.each fs[i] (List.getElem_mem hi')
    refine ⟨g, 0, fs[i].sl, rfl, hb, (Array.getElem?_eq_some_iff.1 hh).1, ?_, ?_, ?_, ?_⟩
    · rw [Nat.zero_add, hr.cellAt (i * 3) (by omega), c0]; simp [GF.fn]
    · rw [Nat.zero_add, hr.cellAt (i * 3 + 1) (by omega), c1]; simp [GF.fn]
    · rw [Nat.zero_add, hr.cellAt (i * 3 + 2) (by omega), c2]
    · have := InsRow.of_owns e1 (by omega)
      simpa [GF.fn] using this

/-- a block of instructions is no block of functions -/
theorem Fs.other {base : Nat} {w : World} {vF : Value} {fs : List GF} (h : Fs base w vF fs) (f : GF) (hf : f ∈ fs) : vF.ownBlock ≠ some f.b := by
  intro e
  rcases h.row.2 with ⟨rfl, _⟩ | ⟨g, cap, cur, rfl, _, hh, _⟩
  · simp [Value.ownBlock] at e
  · simp only [Value.ownBlock, Option.some.injEq] at e
    subst e
    rcases (h.each f hf).1.2 with ⟨e, _⟩ | ⟨g', cap', cur', e, _, hh', _⟩
    · simp [GF.sl] at e
    · simp only [GF.sl, Value.slice.injEq, Option.some.injEq, Addr.mk.injEq, and_true, true_and] at e
      obtain ⟨rfl, _⟩ := e
      rw [hh] at hh'
      simp at hh'

theorem Fs.kept {base : Nat} {w w' : World} {vF : Value} {fs : List GF} (h : Fs base w vF fs) (hb : ∀ b, base ≤ b → b < w.heap.size → w'.heap[b]? = w.heap[b]?) : Fs base w' vF fs :=
  ⟨own_kept h.row fun b e => hb b (h.row.lt b e).1 (h.row.lt b e).2, fun f hf => ⟨own_kept (h.each f hf).1 fun b e => hb b ((h.each f hf).1.lt b e).1 ((h.each f hf).1.lt b e).2, (h.each f hf).2⟩⟩

theorem Fs.lt {base : Nat} {w : World} {vF : Value} {fs : List GF} (h : Fs base w vF fs) (f : GF) (hf : f ∈ fs) : base ≤ f.b ∧ f.b < w.heap.size := (h.each f hf).1.lt f.b rfl

/-- one function more -/
theorem Fs.snoc {base : Nat} {w w' : World} {vF v' : Value} {fs : List GF} (h : Fs base w vF fs) (f : GF) (hg : w.grownBy w' vF.ownBlock) (hrow : w'.ownsRow base 56 3 v' (fs.length + 1) (fnCells fs ++ fnCells [f]))
    (hf : w'.ownsRow base 65 2 f.sl f.code.length (insCells f.code) ∧ f.fn.ok ∧ -1000 ≤ f.args ∧ f.code.length ≤ 20000) : Fs base w' v' (fs ++ [f]) := by
  refine ⟨by rw [fnCells_append, List.length_append]; exact hrow, fun x hx => ?_⟩
  · rcases List.mem_append.1 hx with hx | hx
    · refine ⟨own_kept (h.each x hx).1 fun b e => hg.block b ((h.each x hx).1.lt b e).2 fun e' => h.other x hx ?_, (h.each x hx).2⟩
      rw [← e']
      simpa [GF.sl, Value.ownBlock] using e.symm
    · simp at hx; subst hx; exact hf

theorem minTwo (a b : Int) (w : World) : Calls Tryd.prog 58 #[.int .i64 a, .int .i64 b] w fun e w' => e = .returned (.int .i64 (if a < b then a else b)) ∧ w' = w := by
  by_cases h : a < b
  · rw [if_pos h]
    go_enter Tryd.func58, Tryd.ntmps58
    go_wp2
    go_ret
    exact ⟨rfl, rfl⟩
  · rw [if_neg h]
    go_enter Tryd.func58, Tryd.ntmps58
    go_wp2
    go_ret
    exact ⟨rfl, rfl⟩

/-- each function's code lies in a block of its own -/
def Apart (fs : List GF) : Prop := ∀ i j (hi : i < fs.length) (hj : j < fs.length), i ≠ j → fs[i].b ≠ fs[j].b

theorem insCells_set0 (c : List (Int × Int)) (i : Nat) (y : Int) (h : i < c.length) : (insCells c).set (i * 2) (.int .i64 y) = insCells (c.set i (y, c[i].2)) := by
  induction c generalizing i with
  | nil => simp at h
  | cons x c ih =>
    cases i with
    | zero => simp [insCells]
    | succ i =>
      have := ih i (by simpa using h)
      rw [show (i + 1) * 2 = i * 2 + 1 + 1 by omega]
      simp [insCells, this]

theorem fnCells_same (fs : List GF) (i : Nat) (f : GF) (h : i < fs.length) (e1 : f.args = fs[i].args) (e2 : f.locals = fs[i].locals) (e3 : f.sl = fs[i].sl) : fnCells (fs.set i f) = fnCells fs := by
  rw [← fnCells_set fs i f h, e1, e2, e3]
  obtain ⟨c0, c1, c2⟩ := fnCells_get fs i h
  apply List.ext_getElem?
  intro j
  simp only [List.getElem?_set, List.length_set]
  have hl := fnCells_length fs
  split
  · rename_i e; subst e; rw [if_pos (by omega)]; exact c2.symm
  · split
    · rename_i e; subst e; rw [if_pos (by omega)]; exact c1.symm
    · split
      · rename_i e; subst e; rw [if_pos (by omega)]; exact c0.symm
      · rfl

/-- a number is written into a function's code -/
theorem Fs.recode {base : Nat} {w : World} {vF : Value} {fs : List GF} (h : Fs base w vF fs) (ha : Apart fs) (i : Nat) (hi : i < fs.length) (j : Nat) (x : Int) (c' : List (Int × Int)) (hl : c'.length = fs[i].code.length)
    (hc : (insCells fs[i].code).set j (.int .i64 x) = insCells c') (hok : ∀ y ∈ c', I64 y.1 ∧ I64 y.2) : Fs base (w.setCell ⟨fs[i].b, j, none⟩ (.int .i64 x)) vF (fs.set i ⟨fs[i].args, fs[i].locals, fs[i].b, fs[i].cap, c'⟩) := by
  have hm := List.getElem_mem hi
  obtain ⟨e1, e2, e3, e4⟩ := h.each fs[i] hm
  obtain ⟨s1, s2⟩ := World.ownsRow.stored (show w.ownsRow base 65 2 (.slice (some ⟨fs[i].b, 0, none⟩) fs[i].code.length fs[i].cap) fs[i].code.length (insCells fs[i].code) from e1) j (.int .i64 x)
  refine ⟨?_, fun f hf => ?_⟩
  · rw [List.length_set, fnCells_same fs i ⟨fs[i].args, fs[i].locals, fs[i].b, fs[i].cap, c'⟩ hi rfl rfl (by simp [GF.sl, hl])]
    exact h.row.kept s2 (.inr (h.other _ hm))
  · obtain ⟨k, hk, rfl⟩ := List.getElem_of_mem hf
    have hk' : k < fs.length := by simpa using hk
    by_cases he : i = k
    · subst he
      simp only [List.getElem_set_self]
      refine ⟨?_, ⟨e2.1, e2.2.1, hok⟩, e3, by omega⟩
      rw [hc] at s1
      simp only [GF.sl, hl]
      exact s1
    · simp only [List.getElem_set_ne he]
      have hx := h.each fs[k] (List.getElem_mem hk')
      exact ⟨hx.1.kept s2 (.inr (by simp only [GF.sl, Value.ownBlock, ne_eq, Option.some.injEq]; exact fun e => ha i k hi hk' he e.symm)), hx.2⟩

/-- a function's own cell is written -/
theorem Fs.reset {base : Nat} {w w' : World} {g cap : Nat} {fs : List GF} (h : Fs base w (.slice (some ⟨g, 0, none⟩) fs.length cap) fs) (i : Nat) (f : GF) (hrow : w'.ownsRow base 56 3 (.slice (some ⟨g, 0, none⟩) fs.length cap) fs.length (fnCells (fs.set i f)))
    (hb : ∀ x ∈ fs, w'.heap[x.b]? = w.heap[x.b]?) (hf : w'.ownsRow base 65 2 f.sl f.code.length (insCells f.code) ∧ f.fn.ok ∧ -1000 ≤ f.args ∧ f.code.length ≤ 20000) : Fs base w' (.slice (some ⟨g, 0, none⟩) fs.length cap) (fs.set i f) := by
  refine ⟨by rw [List.length_set]; exact hrow, fun x hx => ?_⟩
  rcases List.mem_or_eq_of_mem_set hx with hx | rfl
  · refine ⟨own_kept (h.each x hx).1 fun b e => ?_, (h.each x hx).2⟩
    have he : b = x.b := by simpa [GF.sl, Value.ownBlock] using e.symm
    subst he
    exact hb x hx
  · exact hf

/-- what stands while a program is spoilt -/
structure Sp (B s P base : Nat) (w : World) (vF : Value) (fs : List GF) : Prop where
  src : Src B w s
  sP : s < P
  Pb : P < base
  cell : VRow w P [vF]
  fns : Fs base w vF fs

theorem Sp.drawn {B s P base : Nat} {w w' : World} {vF : Value} {fs : List GF} (h : Sp B s P base w vF fs) (hg : w.grownBy w' (some s)) (hs : Src B w' s) : Sp B s P base w' vF fs := by
  have hsP := h.sP
  have hPb := h.Pb
  refine ⟨hs, hsP, hPb, ?_, h.fns.kept fun b hb hl => hg.block b hl (by simp; omega)⟩
  have hbl := hg.block P h.cell.1 (by simp; omega)
  exact ⟨Nat.lt_of_lt_of_le h.cell.1 hg.size, fun j hj => by rw [World.cell?_of_block (w := w) hbl, World.frozen?_of_block (w := w) hbl]; exact h.cell.2 j hj⟩

theorem spN {B s P base : Nat} {vF : Value} {fs : List GF} (most : Int) (w : World) (h : Sp B s P base w vF fs) (hm : most ≤ 9223372036854775807) :
    Calls Tryd.prog 40 #[.pointer (some ⟨s, 0, none⟩), .int .i64 most] w fun e w' => ∃ r : Int, e = .returned (.int .i64 r) ∧ 0 ≤ r ∧ (r = 0 ∨ r < most) ∧ Sp B s P base w' vF fs ∧ Chg s P w w' := by
  refine (srcN B s most w h.src hm).mono ?_
  rintro e w' ⟨r, rfl, h0, h1, h2, h3⟩
  exact ⟨r, rfl, h0, h1, h.drawn h3 h2, Chg.of_src h3 (Nat.le_of_lt h.cell.1)⟩

/-- a program that was drawn: what is known of it -/
def PrgOk (B s P base : Nat) (w : World) : Prop := ∃ vF p, VRow w P [vF] ∧ FnRow base w vF p ∧ (∀ f ∈ p, FnM.ok f) ∧ (∀ f ∈ p, -1000 ≤ f.args) ∧ 1 ≤ p.length ∧ p.length ≤ 7 ∧ (∀ f ∈ p, f.code.length ≤ 20000) ∧ Src B w s

theorem Sp.done {B s P base : Nat} {w : World} {vF : Value} {fs : List GF} (h : Sp B s P base w vF fs) (h1 : 1 ≤ fs.length) (h7 : fs.length ≤ 7) : PrgOk B s P base w := by
  refine ⟨vF, fs.map GF.fn, h.cell, h.fns.fnRow (by omega), fun f hf => ?_, fun f hf => ?_, by simpa using h1, by simpa using h7, fun f hf => ?_, h.src⟩
  all_goals
    obtain ⟨x, hx, rfl⟩ := List.mem_map.1 hf
    obtain ⟨e1, e2, e3, e4⟩ := h.fns.each x hx
  · exact e2
  · exact e3
  · exact e4
end Go.Proofs.YtljhoplcfoiiiaaDoor
