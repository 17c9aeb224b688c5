/- The generator of drawn programs: what stands while a program is spoilt. -/
import Derived.Test.YtljhoplcfoiiiaaDoorGenF
namespace Go.Proofs.YtljhoplcfoiiiaaDoor
open Go.RowKit

structure SpAt (w : World) (P bF i : Nat) (vF : Value) (f : GF) : Prop where
  p0 : w.cell? ⟨P, 0, none⟩ = some vF
  pf : w.frozen? ⟨P, 0, none⟩ = false
  pl : P < w.heap.size
  bl : bF < w.heap.size
  c0 : w.cell? ⟨bF, i * 3, none⟩ = some (.int .i64 f.args)
  c1 : w.cell? ⟨bF, i * 3 + 1, none⟩ = some (.int .i64 f.locals)
  c2 : w.cell? ⟨bF, i * 3 + 2, none⟩ = some f.sl
  f0 : w.frozen? ⟨bF, i * 3, none⟩ = false
  f1 : w.frozen? ⟨bF, i * 3 + 1, none⟩ = false
  f2 : w.frozen? ⟨bF, i * 3 + 2, none⟩ = false
  cl : f.b < w.heap.size
  code : ∀ k, k < f.code.length → (∃ x, w.cell? ⟨f.b, k * 2, none⟩ = some x) ∧ (∃ x, w.cell? ⟨f.b, k * 2 + 1, none⟩ = some x) ∧ w.frozen? ⟨f.b, k * 2, none⟩ = false ∧ w.frozen? ⟨f.b, k * 2 + 1, none⟩ = false

theorem Sp.at {B s P base bF capF : Nat} {w : World} {fs : List GF} (h : Sp B s P base w (.slice (some ⟨bF, 0, none⟩) fs.length capF) fs) (i : Nat) (hi : i < fs.length) : SpAt w P bF i (.slice (some ⟨bF, 0, none⟩) fs.length capF) fs[i] := by
  have hr := h.fns.row
  obtain ⟨g0, g1, g2⟩ := fnCells_get fs i hi
  have he := (h.fns.each fs[i] (List.getElem_mem hi)).1
  have hp := h.cell.2 0 (by simp)
  refine ⟨hp.1, hp.2, h.cell.1, (hr.lt bF rfl).2, by rw [hr.cellAt _ (by omega)]; exact g0, by rw [hr.cellAt _ (by omega)]; exact g1, by rw [hr.cellAt _ (by omega)]; exact g2, hr.frozenAt _, hr.frozenAt _, hr.frozenAt _, (he.lt fs[i].b rfl).2, fun k hk => ?_⟩
  have he' : w.ownsRow base 65 2 (.slice (some ⟨fs[i].b, 0, none⟩) fs[i].code.length fs[i].cap) fs[i].code.length (insCells fs[i].code) := he
  obtain ⟨k0, k1⟩ := insCells_get fs[i].code k hk
  exact ⟨⟨_, by rw [he'.cellAt _ (by omega)]; exact k0⟩, ⟨_, by rw [he'.cellAt _ (by omega)]; exact k1⟩, he'.frozenAt _, he'.frozenAt _⟩

theorem Sp.drew {B s P base : Nat} {w : World} {vF : Value} {fs : List GF} (h : Sp B s P base w vF fs) : Sp B s P base w.drew vF fs := h.drawn ⟨rfl, rfl, rfl, Nat.le_refl _, fun _ _ _ => rfl⟩ h.src
theorem Chg.drew (s g : Nat) (w : World) : Chg s g w w.drew := ⟨rfl, rfl, rfl, Nat.le_refl _, fun _ _ _ => rfl⟩
theorem Sp.of_drew {B s P base : Nat} {w : World} {vF : Value} {fs : List GF} (h : Sp B s P base w vF fs) : Sp B s P base w.drew vF fs := h.drew

/-- a number written into code: what stands then -/
theorem Sp.recode {B s P base : Nat} {w : World} {vF : Value} {fs : List GF} (h : Sp B s P base w vF fs) (ha : Apart fs) (i : Nat) (hi : i < fs.length) (j : Nat) (x : Int) (c' : List (Int × Int)) (hl : c'.length = fs[i].code.length)
    (hc : (insCells fs[i].code).set j (.int .i64 x) = insCells c') (hok : ∀ y ∈ c', I64 y.1 ∧ I64 y.2) :
    Sp B s P base (w.setCell ⟨fs[i].b, j, none⟩ (.int .i64 x)) vF (fs.set i ⟨fs[i].args, fs[i].locals, fs[i].b, fs[i].cap, c'⟩) ∧ Chg s P w (w.setCell ⟨fs[i].b, j, none⟩ (.int .i64 x)) := by
  have hb := h.fns.lt fs[i] (List.getElem_mem hi)
  have hPb := h.Pb
  have hsP := h.sP
  refine ⟨⟨h.src.same (by simp) fun b hb' => Below.heap_setCell w _ _ b (by show b ≠ fs[i].b; omega), hsP, hPb, h.cell.set_far _ _ (by show fs[i].b ≠ P; omega), h.fns.recode ha i hi j x c' hl hc hok⟩, ?_⟩
  exact ⟨rfl, rfl, rfl, by simp, fun b hb' _ => Below.heap_setCell w _ _ b (by show b ≠ fs[i].b; omega)⟩

/-- a function's own cell written -/
theorem Sp.reset {B s P base bF capF : Nat} {w : World} {fs : List GF} (h : Sp B s P base w (.slice (some ⟨bF, 0, none⟩) fs.length capF) fs) (i : Nat) (j : Nat) (u : Value) (f : GF) (hc : (fnCells fs).set j u = fnCells (fs.set i f))
    (hf : w.ownsRow base 65 2 f.sl f.code.length (insCells f.code) ∧ f.fn.ok ∧ -1000 ≤ f.args ∧ f.code.length ≤ 20000) :
    Sp B s P base (w.setCell ⟨bF, j, none⟩ u) (.slice (some ⟨bF, 0, none⟩) fs.length capF) (fs.set i f) ∧ Chg s P w (w.setCell ⟨bF, j, none⟩ u) := by
  have hb := h.fns.row.lt bF rfl
  have hPb := h.Pb
  have hsP := h.sP
  obtain ⟨s1, s2⟩ := h.fns.row.stored j u
  rw [hc] at s1
  have hne : ∀ b cur, w.heap[b]? = some (.cells cur 65 (0, 0)) → b ≠ bF := fun b cur hh e => by
    subst e
    rcases h.fns.row.2 with ⟨e, _⟩ | ⟨g, cap, cur', e, _, hh', _⟩
    · simp at e
    · simp only [Value.slice.injEq, Option.some.injEq, Addr.mk.injEq, and_true, true_and] at e
      obtain ⟨rfl, _⟩ := e
      rw [hh] at hh'
      simp at hh'
  refine ⟨⟨h.src.same (by simp) fun b hb' => Below.heap_setCell w _ _ b (by show b ≠ bF; omega), hsP, hPb, h.cell.set_far _ _ (by show bF ≠ P; omega), h.fns.reset i f s1 (fun x hx => Below.heap_setCell w _ _ _ (by show x.b ≠ bF; exact fun e => h.fns.other x hx (by simp [Value.ownBlock, e]))) ⟨own_kept hf.1 fun b e => Below.heap_setCell w _ _ b ?_, hf.2⟩⟩, ?_⟩
  · show b ≠ bF
    rcases hf.1.2 with ⟨e', _⟩ | ⟨g, cap, cur, e', _, hh, _⟩
    · simp [GF.sl] at e'
    · simp only [GF.sl, Value.slice.injEq, Option.some.injEq, Addr.mk.injEq, and_true, true_and] at e'
      have : b = f.b := by simpa [GF.sl, Value.ownBlock] using e.symm
      subst this
      rw [← e'.1] at hh
      exact hne f.b cur hh
  · exact ⟨rfl, rfl, rfl, by simp, fun b hb' _ => Below.heap_setCell w _ _ b (by show b ≠ bF; omega)⟩

theorem fnCells_set0 (c : List GF) (i : Nat) (x : Int) (h : i < c.length) : (fnCells c).set (i * 3) (.int .i64 x) = fnCells (c.set i ⟨x, c[i].locals, c[i].b, c[i].cap, c[i].code⟩) := by
  induction c generalizing i with
  | nil => simp at h
  | cons y c ih =>
    cases i with
    | zero => simp [fnCells, GF.sl]
    | succ i =>
      have := ih i (by simpa using h)
      rw [show (i + 1) * 3 = i * 3 + 1 + 1 + 1 by omega]
      simp [fnCells, this]
theorem fnCells_set1 (c : List GF) (i : Nat) (x : Int) (h : i < c.length) : (fnCells c).set (i * 3 + 1) (.int .i64 x) = fnCells (c.set i ⟨c[i].args, x, c[i].b, c[i].cap, c[i].code⟩) := by
  induction c generalizing i with
  | nil => simp at h
  | cons y c ih =>
    cases i with
    | zero => simp [fnCells, GF.sl]
    | succ i =>
      have := ih i (by simpa using h)
      rw [show (i + 1) * 3 + 1 = i * 3 + 1 + 1 + 1 + 1 by omega]
      simp [fnCells, this]
theorem fnCells_set2 (c : List GF) (i b cap : Nat) (d : List (Int × Int)) (h : i < c.length) : (fnCells c).set (i * 3 + 2) (.slice (some ⟨b, 0, none⟩) d.length cap) = fnCells (c.set i ⟨c[i].args, c[i].locals, b, cap, d⟩) := by
  induction c generalizing i with
  | nil => simp at h
  | cons y c ih =>
    cases i with
    | zero => simp [fnCells, GF.sl]
    | succ i =>
      have := ih i (by simpa using h)
      rw [show (i + 1) * 3 + 2 = i * 3 + 2 + 1 + 1 + 1 by omega]
      simp [fnCells, this]

theorem i64_wrap (x : Int) : I64 (IntKind.i64.wrap x) := by
  rw [IntKind.wrap_i64]
  unfold I64
  omega

theorem Apart.reset {fs : List GF} (h : Apart fs) (i : Nat) (f : GF) (hi : i < fs.length) (hf : f.b = fs[i].b) : Apart (fs.set i f) := by
  intro a b ha hb hn
  have ha' : a < fs.length := by simpa using ha
  have hb' : b < fs.length := by simpa using hb
  have hx : ∀ j (hj : j < fs.length) (hj' : j < (fs.set i f).length), (fs.set i f)[j].b = fs[j].b := fun j hj hj' => by
    rw [List.getElem_set]
    split
    · rename_i e; subst e; exact hf
    · rfl
  rw [hx a ha', hx b hb']
  exact h a b ha' hb' hn

theorem code_ok_set {c : List (Int × Int)} (h : ∀ y ∈ c, I64 y.1 ∧ I64 y.2) (k : Nat) (x : Int × Int) (h1 : I64 x.1) (h2 : I64 x.2) : ∀ y ∈ c.set k x, I64 y.1 ∧ I64 y.2 := fun y hy => by
  rcases List.mem_or_eq_of_mem_set hy with hy | rfl
  · exact h y hy
  · exact ⟨h1, h2⟩

theorem Sp.endOp {B s P base : Nat} {w : World} {vF : Value} {fs : List GF} (h : Sp B s P base w vF fs) (ha : Apart fs) (i : Nat) (hi : i < fs.length) (k : Nat) (hk : k < fs[i].code.length) (x : Int) (hx : I64 x) (h1 : 1 ≤ fs.length) (h3 : fs.length ≤ 3) :
    PrgOk B s P base (w.setCell ⟨fs[i].b, k * 2, none⟩ (.int .i64 x)) ∧ Chg s P w (w.setCell ⟨fs[i].b, k * 2, none⟩ (.int .i64 x)) := by
  have hok := (h.fns.each fs[i] (List.getElem_mem hi)).2.1.2.2
  obtain ⟨a, b⟩ := h.recode ha i hi (k * 2) x (fs[i].code.set k (x, fs[i].code[k].2)) (by simp) (insCells_set0 _ _ _ hk) (code_ok_set hok _ _ hx (hok _ (List.getElem_mem hk)).2)
  exact ⟨a.done (by simpa using h1) (by simp; omega), b⟩

theorem Sp.endA {B s P base : Nat} {w : World} {vF : Value} {fs : List GF} (h : Sp B s P base w vF fs) (ha : Apart fs) (i : Nat) (hi : i < fs.length) (k : Nat) (hk : k < fs[i].code.length) (x : Int) (hx : I64 x) (h1 : 1 ≤ fs.length) (h3 : fs.length ≤ 3) :
    PrgOk B s P base (w.setCell ⟨fs[i].b, k * 2 + 1, none⟩ (.int .i64 x)) ∧ Chg s P w (w.setCell ⟨fs[i].b, k * 2 + 1, none⟩ (.int .i64 x)) := by
  have hok := (h.fns.each fs[i] (List.getElem_mem hi)).2.1.2.2
  obtain ⟨a, b⟩ := h.recode ha i hi (k * 2 + 1) x (fs[i].code.set k (fs[i].code[k].1, x)) (by simp) (insCells_set _ _ _ hk) (code_ok_set hok _ _ (hok _ (List.getElem_mem hk)).1 hx)
  exact ⟨a.done (by simpa using h1) (by simp; omega), b⟩

theorem Sp.endIns {B s P base : Nat} {w : World} {vF : Value} {fs : List GF} (h : Sp B s P base w vF fs) (ha : Apart fs) (i : Nat) (hi : i < fs.length) (k : Nat) (hk : k < fs[i].code.length) (x y : Int) (hx : I64 x) (hy : I64 y) (h1 : 1 ≤ fs.length) (h3 : fs.length ≤ 3) :
    PrgOk B s P base ((w.setCell ⟨fs[i].b, k * 2, none⟩ (.int .i64 x)).setCell ⟨fs[i].b, k * 2 + 1, none⟩ (.int .i64 y)) ∧ Chg s P w ((w.setCell ⟨fs[i].b, k * 2, none⟩ (.int .i64 x)).setCell ⟨fs[i].b, k * 2 + 1, none⟩ (.int .i64 y)) := by
  have hok := (h.fns.each fs[i] (List.getElem_mem hi)).2.1.2.2
  obtain ⟨a, b⟩ := h.recode ha i hi (k * 2) x (fs[i].code.set k (x, fs[i].code[k].2)) (by simp) (insCells_set0 _ _ _ hk) (code_ok_set hok _ _ hx (hok _ (List.getElem_mem hk)).2)
  have q := a.endA (ha.reset i _ hi rfl) i (by simpa using hi) k (by simpa using hk) y hy (by simpa using h1) (by simpa using h3)
  simp only [List.getElem_set_self] at q
  exact ⟨q.1, b.trans q.2⟩

theorem Sp.endArgs {B s P base bF capF : Nat} {w : World} {fs : List GF} (h : Sp B s P base w (.slice (some ⟨bF, 0, none⟩) fs.length capF) fs) (i : Nat) (hi : i < fs.length) (x : Int) (hx : I64 x) (hu : -1000 ≤ x) (h1 : 1 ≤ fs.length) (h3 : fs.length ≤ 3) :
    PrgOk B s P base (w.setCell ⟨bF, i * 3, none⟩ (.int .i64 x)) ∧ Chg s P w (w.setCell ⟨bF, i * 3, none⟩ (.int .i64 x)) := by
  obtain ⟨e1, e2, e3, e4⟩ := h.fns.each fs[i] (List.getElem_mem hi)
  obtain ⟨a, b⟩ := h.reset i (i * 3) (.int .i64 x) ⟨x, fs[i].locals, fs[i].b, fs[i].cap, fs[i].code⟩ (fnCells_set0 fs i x hi) ⟨e1, ⟨hx, e2.2⟩, hu, e4⟩
  have q := a.cell
  exact ⟨Sp.done (vF := .slice (some ⟨bF, 0, none⟩) fs.length capF) a (by simpa using h1) (by simp; omega), b⟩

theorem Sp.endLoc {B s P base bF capF : Nat} {w : World} {fs : List GF} (h : Sp B s P base w (.slice (some ⟨bF, 0, none⟩) fs.length capF) fs) (i : Nat) (hi : i < fs.length) (x : Int) (hx : I64 x) (h1 : 1 ≤ fs.length) (h3 : fs.length ≤ 3) :
    PrgOk B s P base (w.setCell ⟨bF, i * 3 + 1, none⟩ (.int .i64 x)) ∧ Chg s P w (w.setCell ⟨bF, i * 3 + 1, none⟩ (.int .i64 x)) := by
  obtain ⟨e1, e2, e3, e4⟩ := h.fns.each fs[i] (List.getElem_mem hi)
  obtain ⟨a, b⟩ := h.reset i (i * 3 + 1) (.int .i64 x) ⟨fs[i].args, x, fs[i].b, fs[i].cap, fs[i].code⟩ (fnCells_set1 fs i x hi) ⟨e1, ⟨e2.1, hx, e2.2.2⟩, e3, e4⟩
  exact ⟨Sp.done (vF := .slice (some ⟨bF, 0, none⟩) fs.length capF) a (by simpa using h1) (by simp; omega), b⟩

theorem insCells_take (c : List (Int × Int)) (k : Nat) : (insCells c).take (k * 2) = insCells (c.take k) := by
  induction c generalizing k with
  | nil => simp [insCells]
  | cons x c ih =>
    cases k with
    | zero => simp [insCells]
    | succ k => rw [show (k + 1) * 2 = k * 2 + 1 + 1 by omega]; simp [insCells, ih k]

theorem Sp.endCut {B s P base bF capF : Nat} {w : World} {fs : List GF} (h : Sp B s P base w (.slice (some ⟨bF, 0, none⟩) fs.length capF) fs) (i : Nat) (hi : i < fs.length) (k : Nat) (hk : k < fs[i].code.length) (h1 : 1 ≤ fs.length) (h3 : fs.length ≤ 3) :
    PrgOk B s P base (w.setCell ⟨bF, i * 3 + 2, none⟩ (.slice (some ⟨fs[i].b, 0, none⟩) k fs[i].cap)) ∧ Chg s P w (w.setCell ⟨bF, i * 3 + 2, none⟩ (.slice (some ⟨fs[i].b, 0, none⟩) k fs[i].cap)) := by
  obtain ⟨e1, e2, e3, e4⟩ := h.fns.each fs[i] (List.getElem_mem hi)
  have hl : (fs[i].code.take k).length = k := by simp; omega
  have hc := fnCells_set2 fs i fs[i].b fs[i].cap (fs[i].code.take k) hi
  rw [hl] at hc
  have hown : w.ownsRow base 65 2 (.slice (some ⟨fs[i].b, 0, none⟩) k fs[i].cap) k (insCells (fs[i].code.take k)) := by
    refine ⟨by rw [insCells_length, hl], ?_⟩
    rcases e1.2 with ⟨e, _⟩ | ⟨g, cap, cur, e, a1, a2, a3, a4, a5, a6⟩
    · simp [GF.sl] at e
    · simp only [GF.sl, Value.slice.injEq, Option.some.injEq, Addr.mk.injEq, and_true, true_and] at e
      obtain ⟨rfl, rfl⟩ := e
      refine .inr ⟨fs[i].b, fs[i].cap, cur, rfl, a1, a2, by omega, a4, a5, ?_⟩
      rw [← insCells_take, ← a6, List.take_take, Nat.min_eq_left (by omega)]
  obtain ⟨a, b⟩ := h.reset i (i * 3 + 2) (.slice (some ⟨fs[i].b, 0, none⟩) k fs[i].cap) ⟨fs[i].args, fs[i].locals, fs[i].b, fs[i].cap, fs[i].code.take k⟩ hc ⟨by simpa only [GF.sl, hl] using hown, ⟨e2.1, e2.2.1, fun y hy => e2.2.2 y (List.mem_of_mem_take hy)⟩, e3, by rw [hl]; omega⟩
  exact ⟨Sp.done (vF := .slice (some ⟨bF, 0, none⟩) fs.length capF) a (by simpa using h1) (by simp; omega), b⟩

def locs : Array Value := #[.int .i64 (-1), .int .i64 0, .int .i64 8, .int .i64 9]
theorem locs_at (k : Nat) (h : k < 4) : ∃ x : Int, locs[k]? = some (.int .i64 x) ∧ I64 x := by
  match k, h with
  | 0, _ => exact ⟨_, rfl, by unfold I64; omega⟩
  | 1, _ => exact ⟨_, rfl, by unfold I64; omega⟩
  | 2, _ => exact ⟨_, rfl, by unfold I64; omega⟩
  | 3, _ => exact ⟨_, rfl, by unfold I64; omega⟩
  | n + 4, h => omega

theorem Sp.alloc {B s P base : Nat} {w : World} {vF : Value} {fs : List GF} (h : Sp B s P base w vF fs) (o : Obj) : Sp B s P base (w.alloc o) vF fs := by
  have hb : Below w.heap.size w (w.alloc o) := (Below.refl _ _).alloc (Nat.le_refl _) o
  exact ⟨h.src.alloc o, h.sP, h.Pb, h.cell.below hb, h.fns.kept fun b _ hl => hb.block b hl⟩

theorem Sp.endApp {B s P base bF capF g cap : Nat} {w w' : World} {fs : List GF} {o : Obj} (h : Sp B s P base w (.slice (some ⟨bF, 0, none⟩) fs.length capF) fs) (ha : Apart fs) (i : Nat) (hi : i < fs.length) (hg : (w.alloc o).grownBy w' (some fs[i].b))
    (ho : w'.ownsRow base 65 2 (.slice (some ⟨g, 0, none⟩) (fs[i].code.length + 1) cap) (fs[i].code.length + 1) (insCells fs[i].code ++ [.int .i64 5, .int .i64 0])) (hl : fs[i].code.length ≤ 10000) (h1 : 1 ≤ fs.length) (h3 : fs.length ≤ 3) :
    ((w'.cell? ⟨bF, i * 3 + 2, none⟩ = some fs[i].sl ∧ w'.frozen? ⟨bF, i * 3 + 2, none⟩ = false) ∧ bF < w'.heap.size) ∧ PrgOk B s P base (w'.setCell ⟨bF, i * 3 + 2, none⟩ (.slice (some ⟨g, 0, none⟩) (fs[i].code.length + 1) cap)) ∧
      Chg s P w (w'.setCell ⟨bF, i * 3 + 2, none⟩ (.slice (some ⟨g, 0, none⟩) (fs[i].code.length + 1) cap)) := by
  have hm := List.getElem_mem hi
  have hA := h.alloc o
  obtain ⟨e1, e2, e3, e4⟩ := h.fns.each fs[i] hm
  have hbi := h.fns.lt fs[i] hm
  have hbF := h.fns.row.lt bF rfl
  have hPb := h.Pb
  have hsP := h.sP
  have hne : bF ≠ fs[i].b := fun e => h.fns.other fs[i] hm (by simp [Value.ownBlock, e])
  have hrow' : w'.ownsRow base 56 3 (.slice (some ⟨bF, 0, none⟩) fs.length capF) fs.length (fnCells fs) := hA.fns.row.kept hg (.inr (by simp only [Value.ownBlock, ne_eq, Option.some.injEq]; exact hne))
  have hsz : w.heap.size ≤ w'.heap.size := by have := hg.size; simp at this; omega
  have hal : ∀ b, b < w.heap.size → (w.alloc o).heap[b]? = w.heap[b]? := fun b hb => ((Below.refl w.heap.size w).alloc (Nat.le_refl _) o).block b hb
  have hlow : ∀ b, b < base → w'.heap[b]? = w.heap[b]? := fun b hb => (hg.block b (by simp; omega) (by simp; omega)).trans (hal b (by omega))
  obtain ⟨g0, g1, g2⟩ := fnCells_get fs i hi
  have hlen : (fs[i].code ++ [((5 : Int), (0 : Int))]).length = fs[i].code.length + 1 := by simp
  have hc := fnCells_set2 fs i g cap (fs[i].code ++ [(5, 0)]) hi
  rw [hlen] at hc
  obtain ⟨s1, s2⟩ := hrow'.stored (i * 3 + 2) (.slice (some ⟨g, 0, none⟩) (fs[i].code.length + 1) cap)
  rw [hc] at s1
  have hgb : g ≠ bF := fun e => by
    subst e
    rcases hrow'.2 with ⟨e, _⟩ | ⟨g', cap', cur', e, _, hh', _⟩
    · simp at e
    · simp only [Value.slice.injEq, Option.some.injEq, Addr.mk.injEq, and_true, true_and] at e
      obtain ⟨rfl, _⟩ := e
      rcases ho.2 with ⟨e, _⟩ | ⟨g'', cap'', cur'', e, _, hh'', _⟩
      · simp at e
      · simp only [Value.slice.injEq, Option.some.injEq, Addr.mk.injEq, and_true, true_and] at e
        obtain ⟨rfl, _⟩ := e
        rw [hh'] at hh''
        simp at hh''
  refine ⟨⟨⟨by rw [hrow'.cellAt _ (by omega)]; exact g2, hrow'.frozenAt _⟩, by omega⟩, ?_, ?_⟩
  · refine Sp.done (vF := .slice (some ⟨bF, 0, none⟩) fs.length capF) (fs := fs.set i ⟨fs[i].args, fs[i].locals, g, cap, fs[i].code ++ [(5, 0)]⟩) ⟨(h.src.same hsz fun b hb => hlow b (by omega)).same (by simp) fun b hb => Below.heap_setCell w' _ _ b (by show b ≠ bF; omega), hsP, hPb, ?_, ⟨by rw [List.length_set]; exact s1, fun x hx => ?_⟩⟩ (by simpa using h1) (by simp; omega)
    · refine VRow.set_far ⟨Nat.lt_of_lt_of_le h.cell.1 hsz, fun j hj => ?_⟩ _ _ (by show bF ≠ P; omega)
      rw [World.cell?_of_block (w := w) (hlow P hPb), World.frozen?_of_block (w := w) (hlow P hPb)]
      exact h.cell.2 j hj
    · obtain ⟨k, hk, rfl⟩ := List.getElem_of_mem hx
      have hk' : k < fs.length := by simpa using hk
      by_cases he : i = k
      · subst he
        simp only [List.getElem_set_self]
        refine ⟨?_, ⟨e2.1, e2.2.1, fun y hy => ?_⟩, e3, by rw [hlen]; omega⟩
        · have := ho.kept s2 (.inr (by simp only [Value.ownBlock, ne_eq, Option.some.injEq]; exact hgb))
          simp only [GF.sl, hlen]
          rw [insCells_append]
          exact this
        · rcases List.mem_append.1 hy with hy | hy
          · exact e2.2.2 y hy
          · simp at hy; subst hy; exact ⟨by unfold I64; simp only; omega, by unfold I64; simp only; omega⟩
      · simp only [List.getElem_set_ne he]
        have hx := hA.fns.each fs[k] (List.getElem_mem hk')
        have h5 := hx.1.kept hg (.inr (by simp only [GF.sl, Value.ownBlock, ne_eq, Option.some.injEq]; exact fun e => ha i k hi hk' he e.symm))
        exact ⟨h5.kept s2 (.inr (by simp only [GF.sl, Value.ownBlock, ne_eq, Option.some.injEq]; exact fun e => h.fns.other fs[k] (List.getElem_mem hk') (by simp [Value.ownBlock, e]))), hx.2⟩
  · exact ⟨hg.os, hg.tape, hg.output, by simpa using hsz, fun b hb _ => (Below.heap_setCell w' _ _ b (by show b ≠ bF; omega)).trans (hlow b (by omega))⟩

theorem Sp.app {B s P base : Nat} {w w' : World} {vF v' : Value} {fs : List GF} {o : Obj} (h : Sp B s P base w vF fs) (f : GF) (hg : (w.alloc o).grownBy w' vF.ownBlock) (hrow : w'.ownsRow base 56 3 v' (fs.length + 1) (fnCells fs ++ fnCells [f]))
    (hf : w.ownsRow base 65 2 f.sl f.code.length (insCells f.code) ∧ f.fn.ok ∧ -1000 ≤ f.args ∧ f.code.length ≤ 20000) :
    (w'.cell? ⟨P, 0, none⟩ = some vF ∧ w'.frozen? ⟨P, 0, none⟩ = false ∧ P < w'.heap.size) ∧ Sp B s P base (w'.setCell ⟨P, 0, none⟩ v') v' (fs ++ [f]) ∧ Chg s P w (w'.setCell ⟨P, 0, none⟩ v') := by
  have hA := h.alloc o
  have hPb := h.Pb
  have hsP := h.sP
  have hsz : w.heap.size ≤ w'.heap.size := by have := hg.size; simp at this; omega
  have hal : ∀ b, b < w.heap.size → (w.alloc o).heap[b]? = w.heap[b]? := fun b hb => ((Below.refl w.heap.size w).alloc (Nat.le_refl _) o).block b hb
  have hPl := h.cell.1
  have hlow : ∀ b, b < base → b < w.heap.size → w'.heap[b]? = w.heap[b]? := fun b hb hl => (hg.block b (by simp; omega) (fun e => by have := (h.fns.row.lt b e.symm).1; omega)).trans (hal b hl)
  have hP := hlow P hPb hPl
  have hc := h.cell.2 0 (by simp)
  have hft : vF.ownBlock ≠ some f.b := fun e => by
    rcases h.fns.row.2 with ⟨rfl, _⟩ | ⟨g, cap, cur, rfl, _, hh, _⟩
    · simp [Value.ownBlock] at e
    · simp only [Value.ownBlock, Option.some.injEq] at e
      subst e
      rcases hf.1.2 with ⟨e, _⟩ | ⟨g', cap', cur', e, _, hh', _⟩
      · simp [GF.sl] at e
      · simp only [GF.sl, Value.slice.injEq, Option.some.injEq, Addr.mk.injEq, and_true, true_and] at e
        obtain ⟨rfl, _⟩ := e
        rw [hh] at hh'
        simp at hh'
  have hset : w'.grownBy (w'.setCell ⟨P, 0, none⟩ v') (some P) := ⟨rfl, rfl, rfl, by simp, fun k _ hk => Below.heap_setCell w' _ _ k (fun e => hk (by rw [e]))⟩
  have hF : Fs base w' v' (fs ++ [f]) := by
    refine hA.fns.snoc f hg hrow ⟨own_kept hf.1 fun b e => ?_, hf.2⟩
    have hb := hf.1.lt b e
    have he : b = f.b := by simpa [GF.sl, Value.ownBlock] using e.symm
    subst he
    exact (hg.block f.b (by simp; omega) (fun e => hft e.symm)).trans (hal f.b hb.2)
  refine ⟨⟨by rw [World.cell?_of_block (w := w) hP]; exact hc.1, by rw [World.frozen?_of_block (w := w) hP]; exact hc.2, by omega⟩, ⟨(h.src.same hsz fun b hb => hlow b (by omega) (by omega)).same (by simp) fun b hb => Below.heap_setCell w' _ _ b (by show b ≠ P; omega), hsP, hPb, ?_, hF.kept fun b hb _ => Below.heap_setCell w' _ _ b (by show b ≠ P; omega)⟩, ?_⟩
  · refine ⟨by simp; omega, fun j hj => ?_⟩
    have : j = 0 := by simp at hj; exact hj
    subst this
    exact ⟨World.cell?_setCell_same _ _ _ (u := vF) (by rw [World.cell?_of_block (w := w) hP]; exact hc.1), by simp only [World.frozen?_setCell]; rw [World.frozen?_of_block (w := w) hP]; exact hc.2⟩
  · exact ⟨hg.os, hg.tape, hg.output, by simpa using hsz, fun b hb _ => (Below.heap_setCell w' _ _ b (by show b ≠ P; omega)).trans (hlow b (by omega) (by omega))⟩
end Go.Proofs.YtljhoplcfoiiiaaDoor
