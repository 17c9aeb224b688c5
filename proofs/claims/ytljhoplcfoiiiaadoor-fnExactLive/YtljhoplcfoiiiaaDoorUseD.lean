/- What is read and written, and where it goes on to, place by place: in memory. -/
import Derived.Test.YtljhoplcfoiiiaaDoorUseW
import Derived.Test.YtljhoplcfoiiiaaDoorHeiI
import Derived.BigRegion
import Derived.Deep.RegionHeld3
namespace Go.Proofs.YtljhoplcfoiiiaaDoor
open Go.RowKit

theorem Tryd.infoS : (Tryd.prog.info? 28).map (fun i => (i.zero, i.size, i.bytes)) = some (some (.slice none 0 0), 1, 24) := by kernel_rfl

theorem VRow.up {W : World} {b : Nat} {vs : List Value} (h : VRow W b vs) (o : Obj) : VRow (W.alloc o) b vs := h.below ((Below.refl _ _).alloc (Nat.le_refl _) _)
theorem VRow.drewn {W : World} {b : Nat} {vs : List Value} (h : VRow W b vs) : VRow W.drew b vs := h.below (Below.refl _ _).drew
theorem vnew (W : World) (C : Array Value) (t : TypeId) (b : Nat) (vs : List Value) (hb : b = W.heap.size) (hv : C.toList = vs) : VRow (W.alloc (.cells C t)) b vs := by
  subst hb; subst hv; exact vrow_new W C t

/-- the three lists, as they are made -/
structure UseN (w wd : World) (prg : Value) (fc : List Value) (n M rb wb gb : Nat) : Prop where
  use : VRow wd M [.slice (some ⟨rb, 0, none⟩) n n, .slice (some ⟨wb, 0, none⟩) n n, .slice (some ⟨gb, 0, none⟩) n n]
  rd : VRow wd rb (madeCells #[.int .i64 0] n).toList
  wr : VRow wd wb (madeCells #[.int .i64 0] n).toList
  gs : VRow wd gb (madeCells #[.slice none 0 0] n).toList
  far : (w.heap.size + 3 ≤ M ∧ M < w.heap.size + 7) ∧ (w.heap.size + 3 ≤ rb ∧ rb < w.heap.size + 7) ∧ (w.heap.size + 3 ≤ wb ∧ wb < w.heap.size + 7) ∧ (w.heap.size + 3 ≤ gb ∧ gb < w.heap.size + 7) ∧ M ≠ rb ∧ M ≠ wb ∧ M ≠ gb ∧ rb ≠ wb ∧ rb ≠ gb ∧ wb ≠ gb
  prog : VRow wd w.heap.size [prg]
  res : VRow wd (w.heap.size + 1) [.slice none 0 0, .slice none 0 0, .slice none 0 0]
  fn : VRow wd (w.heap.size + 1 + 1) fc
  bel : Below w.heap.size w wd
  size : wd.heap.size = w.heap.size + 7

def UseNew (w wd : World) (prg : Value) (fc : List Value) (n : Nat) (x : Value) : Prop := ∃ M rb wb gb, x = .pointer (some ⟨M, 0, none⟩) ∧ UseN w wd prg fc n M rb wb gb

theorem below7 (w : World) (o1 o2 o3 o4 o5 o6 o7 : Obj) : Below w.heap.size w (((((((w.alloc o1).alloc o2).alloc o3).alloc o4).alloc o5).alloc o6).alloc o7).drew :=
  ((((((((Below.refl _ _).alloc (Nat.le_refl _) _).alloc (by simp) _).alloc (by simp; omega) _).alloc (by simp; omega) _).alloc (by simp; omega) _).alloc (by simp; omega) _).alloc (by simp; omega) _).drew

theorem MapH.ne {w : World} {b b' : Nat} {m : List (Option Int)} {v : Value} {vs : List Value} (h : MapH w b m) (h' : VRow w b' (v :: vs)) : b ≠ b' := by
  rintro rfl
  obtain ⟨k, D, ⟨es, clock, h1, _⟩, _⟩ := h
  have := (h'.2 0 (by simp)).1
  simp [World.cell?, h1] at this

structure UseS (w wr : World) (prg : Value) (fc : List Value) (n M rb wb gb : Nat) (rd ws : List Nat) (gs : List Value) : Prop where
  use : VRow wr M [.slice (some ⟨rb, 0, none⟩) n n, .slice (some ⟨wb, 0, none⟩) n n, .slice (some ⟨gb, 0, none⟩) n n]
  rd : VRow wr rb (ints (nats rd))
  wt : VRow wr wb (ints (nats ws))
  gs : VRow wr gb gs
  far : (w.heap.size + 3 ≤ M ∧ M < w.heap.size + 7) ∧ (w.heap.size + 3 ≤ rb ∧ rb < w.heap.size + 7) ∧ (w.heap.size + 3 ≤ wb ∧ wb < w.heap.size + 7) ∧ (w.heap.size + 3 ≤ gb ∧ gb < w.heap.size + 7) ∧ M ≠ rb ∧ M ≠ wb ∧ M ≠ gb ∧ rb ≠ wb ∧ rb ≠ gb ∧ wb ≠ gb
  prog : VRow wr w.heap.size [prg]
  res : VRow wr (w.heap.size + 1) [.slice none 0 0, .slice none 0 0, .slice none 0 0]
  fn : VRow wr (w.heap.size + 1 + 1) fc
  bel : Below w.heap.size w wr
  size : w.heap.size + 7 ≤ wr.heap.size

theorem UseS.below {w wr w1 : World} {prg : Value} {fc : List Value} {n M rb wb gb : Nat} {rd ws : List Nat} {gs : List Value} (h : UseS w wr prg fc n M rb wb gb rd ws gs) (hb : Below wr.heap.size wr w1) : UseS w w1 prg fc n M rb wb gb rd ws gs :=
  ⟨h.use.below hb, h.rd.below hb, h.wt.below hb, h.gs.below hb, h.far, h.prog.below hb, h.res.below hb, h.fn.below hb, h.bel.trans (hb.mono h.bel.size), Nat.le_trans h.size hb.size⟩

theorem nats_set (l : List Nat) (k x : Nat) : (nats l).set k (x : Int) = nats (l.set k x) := by simp [nats, List.map_set]

theorem UseS.setR {w wr : World} {prg : Value} {fc : List Value} {n M rb wb gb : Nat} {rd ws : List Nat} {gs : List Value} (h : UseS w wr prg fc n M rb wb gb rd ws gs) (k x : Nat) (hk : k < rd.length) : UseS w (wr.setCell ⟨rb, k, none⟩ (.int .i64 (x : Int))) prg fc n M rb wb gb (rd.set k x) ws gs := by
  obtain ⟨f1, f2, f3, f4, d1, d2, d3, d4, d5, d6⟩ := h.far
  refine ⟨h.use.set_far _ _ (by show rb ≠ M; omega), ?_, h.wt.set_far _ _ (by show rb ≠ wb; omega), h.gs.set_far _ _ (by show rb ≠ gb; omega), h.far, h.prog.set_far _ _ (by show rb ≠ w.heap.size; omega), h.res.set_far _ _ (by show rb ≠ w.heap.size + 1; omega), h.fn.set_far _ _ (by show rb ≠ w.heap.size + 1 + 1; omega), h.bel.setCell (by show w.heap.size ≤ rb; omega) _, by simpa using h.size⟩
  have := h.rd.set_at k (.int .i64 (x : Int)) (by simpa [ints, nats] using hk)
  rwa [ints_set, nats_set] at this

theorem UseS.setW {w wr : World} {prg : Value} {fc : List Value} {n M rb wb gb : Nat} {rd ws : List Nat} {gs : List Value} (h : UseS w wr prg fc n M rb wb gb rd ws gs) (k x : Nat) (hk : k < ws.length) : UseS w (wr.setCell ⟨wb, k, none⟩ (.int .i64 (x : Int))) prg fc n M rb wb gb rd (ws.set k x) gs := by
  obtain ⟨f1, f2, f3, f4, d1, d2, d3, d4, d5, d6⟩ := h.far
  refine ⟨h.use.set_far _ _ (by show wb ≠ M; omega), h.rd.set_far _ _ (by show wb ≠ rb; omega), ?_, h.gs.set_far _ _ (by show wb ≠ gb; omega), h.far, h.prog.set_far _ _ (by show wb ≠ w.heap.size; omega), h.res.set_far _ _ (by show wb ≠ w.heap.size + 1; omega), h.fn.set_far _ _ (by show wb ≠ w.heap.size + 1 + 1; omega), h.bel.setCell (by show w.heap.size ≤ wb; omega) _, by simpa using h.size⟩
  have := h.wt.set_at k (.int .i64 (x : Int)) (by simpa [ints, nats] using hk)
  rwa [ints_set, nats_set] at this

theorem UseS.setG {w wr : World} {prg : Value} {fc : List Value} {n M rb wb gb : Nat} {rd ws : List Nat} {gs : List Value} (h : UseS w wr prg fc n M rb wb gb rd ws gs) (k : Nat) (x : Value) (hk : k < gs.length) : UseS w (wr.setCell ⟨gb, k, none⟩ x) prg fc n M rb wb gb rd ws (gs.set k x) := by
  obtain ⟨f1, f2, f3, f4, d1, d2, d3, d4, d5, d6⟩ := h.far
  exact ⟨h.use.set_far _ _ (by show gb ≠ M; omega), h.rd.set_far _ _ (by show gb ≠ rb; omega), h.wt.set_far _ _ (by show gb ≠ wb; omega), h.gs.set_at k x hk, h.far, h.prog.set_far _ _ (by show gb ≠ w.heap.size; omega), h.res.set_far _ _ (by show gb ≠ w.heap.size + 1; omega), h.fn.set_far _ _ (by show gb ≠ w.heap.size + 1 + 1; omega), h.bel.setCell (by show w.heap.size ≤ gb; omega) _, by simpa using h.size⟩

/-- numbers by place, the first q of them told -/
def tabN (n q : Nat) (F : Nat → Nat) : List Nat := (List.range n).map fun j => if j < q then F j else 0
theorem tabN_length (n q : Nat) (F : Nat → Nat) : (tabN n q F).length = n := by simp [tabN]
theorem tabN_none (n : Nat) (F : Nat → Nat) : tabN n 0 F = List.replicate n 0 := by
  apply List.ext_getElem <;> simp [tabN]
theorem tabN_get (n q : Nat) (F : Nat → Nat) (j : Nat) (hj : j < n) : (tabN n q F).getD j 0 = if j < q then F j else 0 := by
  simp [tabN, List.getD, hj]
theorem tabN_set (n q : Nat) (F : Nat → Nat) : (tabN n q F).set q (F q) = tabN n (q + 1) F := by
  apply List.ext_getElem
  · simp [tabN]
  · intro j h1 h2
    simp only [tabN, List.getElem_set, List.getElem_map, List.getElem_range]
    by_cases h : q = j
    · subst h; simp
    · rw [if_neg h]
      by_cases h' : j < q
      · rw [if_pos h', if_pos (by omega)]
      · rw [if_neg h', if_neg (by omega)]
theorem tabN_skip (n q : Nat) (F : Nat → Nat) (h : F q = 0) : tabN n (q + 1) F = tabN n q F := by
  apply List.ext_getElem
  · simp [tabN]
  · intro j h1 h2
    simp only [tabN, List.getElem_map, List.getElem_range]
    by_cases e : q = j
    · subst e; simp [h]
    · by_cases h' : j < q
      · rw [if_pos h', if_pos (by omega)]
      · rw [if_neg h', if_neg (by omega)]

/-- where it goes on to, the first q places told -/
def RowsTo (U : Nat) (wr : World) (n q : Nat) (nx : Nat → List Int) (gs : List Value) : Prop := gs.length = n ∧ ∀ j, j < n → IRow U wr (gs.getD j (.slice none 0 0)) (if j < q then nx j else [])

theorem RowsTo.below {U : Nat} {wr w1 : World} {n q : Nat} {nx : Nat → List Int} {gs : List Value} (h : RowsTo U wr n q nx gs) (hb : Below wr.heap.size wr w1) : RowsTo U w1 n q nx gs := ⟨h.1, fun j hj => (h.2 j hj).below hb⟩
theorem RowsTo.setLow {U : Nat} {wr : World} {n q : Nat} {nx : Nat → List Int} {gs : List Value} (h : RowsTo U wr n q nx gs) (a : Addr) (ha : a.block < U) (u : Value) : RowsTo U (wr.setCell a u) n q nx gs := ⟨h.1, fun j hj => (h.2 j hj).set ha u⟩
theorem RowsTo.fresh (U : Nat) (wr : World) (n : Nat) (nx : Nat → List Int) : RowsTo U wr n 0 nx (List.replicate n (.slice none 0 0)) := ⟨by simp, fun j hj => by
  have : (List.replicate n (Value.slice none 0 0)).getD j (.slice none 0 0) = .slice none 0 0 := by simp [List.getD, hj]
  rw [this, if_neg (by omega)]
  exact ⟨none, 0, rfl, by simp, fun i hi => by simp at hi⟩⟩
theorem RowsTo.skip {U : Nat} {wr : World} {n q : Nat} {nx : Nat → List Int} {gs : List Value} (h : RowsTo U wr n q nx gs) (hx : nx q = []) : RowsTo U wr n (q + 1) nx gs := ⟨h.1, fun j hj => by
  have := h.2 j hj
  by_cases e : j = q
  · subst e; rw [if_neg (by omega)] at this; rw [if_pos (by omega), hx]; exact this
  · by_cases h' : j < q
    · rw [if_pos h'] at this; rw [if_pos (by omega)]; exact this
    · rw [if_neg h'] at this; rw [if_neg (by omega)]; exact this⟩
theorem RowsTo.put {U : Nat} {wr : World} {n q : Nat} {nx : Nat → List Int} {gs : List Value} (h : RowsTo U wr n q nx gs) (x : Value) (hx : IRow U wr x (nx q)) (hq : q < n) : RowsTo U wr n (q + 1) nx (gs.set q x) := ⟨by simpa using h.1, fun j hj => by
  have := h.2 j hj
  by_cases e : j = q
  · subst e
    rw [show (gs.set j x).getD j (.slice none 0 0) = x by simp [List.getD, h.1, hj], if_pos (by omega)]
    exact hx
  · rw [show (gs.set q x).getD j (.slice none 0 0) = gs.getD j (.slice none 0 0) by simp [List.getD, Ne.symm e]]
    by_cases h' : j < q
    · rw [if_pos h'] at this; rw [if_pos (by omega)]; exact this
    · rw [if_neg h'] at this; rw [if_neg (by omega)]; exact this⟩

/-- what useOf tells -/
def UseTold (p : List FnM) (c : List (Int × Int)) (L : Nat) (hs : List Int) (w w' : World) (e : Ending) : Prop :=
  ∃ rb wb gb gs, e = .returned (.agg #[.slice (some ⟨rb, 0, none⟩) c.length c.length, .slice (some ⟨wb, 0, none⟩) c.length c.length, .slice (some ⟨gb, 0, none⟩) c.length c.length]) ∧ VRow w' rb (ints (nats (tabN c.length c.length (rdM p c L hs)))) ∧
    VRow w' wb (ints (nats (tabN c.length c.length (wrI p c L hs)))) ∧ VRow w' gb gs ∧ RowsTo 0 w' c.length c.length (nxM c hs) gs ∧ Below w.heap.size w w'

end Go.Proofs.YtljhoplcfoiiiaaDoor
