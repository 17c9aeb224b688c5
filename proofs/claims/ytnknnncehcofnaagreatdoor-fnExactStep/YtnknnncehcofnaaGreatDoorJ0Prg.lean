/- Programs as they lie in memory: what a list of instructions, and one of functions, reads as; and that it does so still behind a call that changes nothing below it. A block of the call's own that holds a row of values, written and read cell by cell. A slice of numbers: what it reads as; one that the call itself made, and appends to. States as they lie in memory: what a list of frames, one of arrays, and a state, reads as. -/
import Derived.Test.YtnknnncehcofnaaGreatDoorRows
import Derived.WalkKit
import Derived.WalkLawsBesides
import Derived.WalkSpells
import Derived.OwnWalk
import Derived.Below
import Derived.Deep.OwnRows
import Derived.Laws.IdiomStrings
import Derived.Deep.QuietTactic
import Derived.BigQuiet
namespace Go.Proofs.YtnknnncehcofnaaGreatDoor
open Go.RowKit

structure FnM where
  args : Int
  locals : Int
  code : List (Int × Int)
  deriving DecidableEq

/-- the slice v reads as these instructions; its cells lie in no block below B -/
def InsRow (B : Nat) (w : World) (v : Value) (c : List (Int × Int)) : Prop :=
  ∃ A cap, v = .slice A c.length cap ∧ c.length ≤ 9223372036854775807 ∧ ∀ i (h : i < c.length), ∃ b off, A = some ⟨b, off, none⟩ ∧ B ≤ b ∧ b < w.heap.size ∧
    w.cell? ⟨b, off + i * 2, none⟩ = some (.int .i64 c[i].1) ∧ w.cell? ⟨b, off + i * 2 + 1, none⟩ = some (.int .i64 c[i].2)

/-- the slice v reads as these functions -/
def FnRow (B : Nat) (w : World) (v : Value) (p : List FnM) : Prop :=
  ∃ A cap, v = .slice A p.length cap ∧ p.length ≤ 9223372036854775807 ∧ ∀ i (h : i < p.length), ∃ b off x, A = some ⟨b, off, none⟩ ∧ B ≤ b ∧ b < w.heap.size ∧
    w.cell? ⟨b, off + i * 3, none⟩ = some (.int .i64 p[i].args) ∧ w.cell? ⟨b, off + i * 3 + 1, none⟩ = some (.int .i64 p[i].locals) ∧ w.cell? ⟨b, off + i * 3 + 2, none⟩ = some x ∧ InsRow B w x p[i].code

/-- .. where nothing changes in the blocks that w has and that do not lie below B -/
theorem InsRow.kept {B : Nat} {w w' : World} {v : Value} {c : List (Int × Int)} (h : InsRow B w v c) (hs : w.heap.size ≤ w'.heap.size) (hb : ∀ b j, B ≤ b → b < w.heap.size → w'.cell? ⟨b, j, none⟩ = w.cell? ⟨b, j, none⟩) : InsRow B w' v c := by
  obtain ⟨A, cap, rfl, hn, hc⟩ := h
  refine ⟨A, cap, rfl, hn, fun i hi => ?_⟩
  obtain ⟨b, off, rfl, hB, hlt, c0, c1⟩ := hc i hi
  exact ⟨b, off, rfl, hB, Nat.lt_of_lt_of_le hlt hs, by rw [hb _ _ hB hlt]; exact c0, by rw [hb _ _ hB hlt]; exact c1⟩

theorem FnRow.kept {B : Nat} {w w' : World} {v : Value} {p : List FnM} (h : FnRow B w v p) (hs : w.heap.size ≤ w'.heap.size) (hb : ∀ b j, B ≤ b → b < w.heap.size → w'.cell? ⟨b, j, none⟩ = w.cell? ⟨b, j, none⟩) : FnRow B w' v p := by
  obtain ⟨A, cap, rfl, hn, hc⟩ := h
  refine ⟨A, cap, rfl, hn, fun i hi => ?_⟩
  obtain ⟨b, off, x, rfl, hB, hlt, c0, c1, c2, hx⟩ := hc i hi
  exact ⟨b, off, x, rfl, hB, Nat.lt_of_lt_of_le hlt hs, by rw [hb _ _ hB hlt]; exact c0, by rw [hb _ _ hB hlt]; exact c1, by rw [hb _ _ hB hlt]; exact c2, hx.kept hs hb⟩

theorem InsRow.below {B : Nat} {w w' : World} {v : Value} {c : List (Int × Int)} (h : InsRow B w v c) (hb : Below w.heap.size w w') : InsRow B w' v c :=
  h.kept hb.size fun _ _ _ hl => hb.cell (by exact hl)

theorem FnRow.below {B : Nat} {w w' : World} {v : Value} {p : List FnM} (h : FnRow B w v p) (hb : Below w.heap.size w w') : FnRow B w' v p :=
  h.kept hb.size fun _ _ _ hl => hb.cell (by exact hl)

theorem InsRow.set {B : Nat} {w : World} {v : Value} {c : List (Int × Int)} (h : InsRow B w v c) {q : Addr} (hq : q.block < B) (u : Value) : InsRow B (w.setCell q u) v c :=
  h.kept (by simp) fun b j hB _ => World.cell?_setCell_other _ _ _ _ (by intro e; rw [e] at hq; exact absurd hB (Nat.not_le_of_lt hq))

theorem FnRow.set {B : Nat} {w : World} {v : Value} {p : List FnM} (h : FnRow B w v p) {q : Addr} (hq : q.block < B) (u : Value) : FnRow B (w.setCell q u) v p :=
  h.kept (by simp) fun b j hB _ => World.cell?_setCell_other _ _ _ _ (by intro e; rw [e] at hq; exact absurd hB (Nat.not_le_of_lt hq))

theorem InsRow.lower {B B' : Nat} {w : World} {v : Value} {c : List (Int × Int)} (h : InsRow B w v c) (hB : B' ≤ B) : InsRow B' w v c := by
  obtain ⟨A, cap, rfl, hn, hc⟩ := h
  refine ⟨A, cap, rfl, hn, fun i hi => ?_⟩
  obtain ⟨b, off, rfl, h1, h2⟩ := hc i hi
  exact ⟨b, off, rfl, Nat.le_trans hB h1, h2⟩

theorem FnRow.lower {B B' : Nat} {w : World} {v : Value} {p : List FnM} (h : FnRow B w v p) (hB : B' ≤ B) : FnRow B' w v p := by
  obtain ⟨A, cap, rfl, hn, hc⟩ := h
  refine ⟨A, cap, rfl, hn, fun i hi => ?_⟩
  obtain ⟨b, off, x, rfl, h1, h2, h3, h4, h5, hx⟩ := hc i hi
  exact ⟨b, off, x, rfl, Nat.le_trans hB h1, h2, h3, h4, h5, hx.lower hB⟩

theorem InsRow.form {B : Nat} {w : World} {v : Value} {c : List (Int × Int)} (h : InsRow B w v c) : ∃ A cap, v = .slice A c.length cap := let ⟨A, cap, h, _⟩ := h; ⟨A, cap, h⟩
theorem FnRow.form {B : Nat} {w : World} {v : Value} {p : List FnM} (h : FnRow B w v p) : ∃ A cap, v = .slice A p.length cap := let ⟨A, cap, h, _⟩ := h; ⟨A, cap, h⟩

/-- how much a program holds: its functions and their instructions -/
def bulk (p : List FnM) : Nat := p.length + (p.map fun f => f.code.length).sum

theorem code_le_bulk (p : List FnM) (k : Nat) (h : k < p.length) : p[k].code.length ≤ bulk p := by
  have h1 : (p.map fun f => f.code.length).sum = ((p.take k).map fun f => f.code.length).sum + ((p.drop k).map fun f => f.code.length).sum := by
    conv => lhs; rw [← List.take_append_drop k p, List.map_append, List.sum_append]
  rw [List.drop_eq_getElem_cons h, List.map_cons, List.sum_cons] at h1
  unfold bulk; omega

/-- the first n cells of block B are there, and may be written -/
def Slots (w : World) (B n : Nat) : Prop := B < w.heap.size ∧ ∀ j, j < n → (∃ z, w.cell? ⟨B, j, none⟩ = some z) ∧ w.frozen? ⟨B, j, none⟩ = false

theorem Slots.below {B n : Nat} {w w' : World} (h : Slots w B n) (hb : Below w.heap.size w w') : Slots w' B n :=
  ⟨Nat.lt_of_lt_of_le h.1 hb.size, fun j hj => by rw [hb.cell (by exact h.1), hb.frozen (by exact h.1)]; exact h.2 j hj⟩

theorem Slots.set {B n : Nat} {w : World} (h : Slots w B n) (i : Nat) (u : Value) : Slots (w.setCell ⟨B, i, none⟩ u) B n := by
  refine ⟨by simpa using h.1, fun j hj => ⟨?_, by simpa using (h.2 j hj).2⟩⟩
  by_cases hij : i = j
  · subst hij
    obtain ⟨z, hz⟩ := (h.2 i hj).1
    exact ⟨u, World.cell?_setCell_same _ _ _ hz⟩
  · rw [World.cell?_setCell_other _ _ _ _ (by simp)]
    exact (h.2 j hj).1

theorem cell_set_far (w : World) (B i j : Nat) (u : Value) (_ : i ≠ j) : (w.setCell ⟨B, i, none⟩ u).cell? ⟨B, j, none⟩ = w.cell? ⟨B, j, none⟩ := World.cell?_setCell_other _ _ _ _ (by simp)

theorem cell_set_at {w : World} {B i n : Nat} (h : Slots w B n) (hi : i < n) (u : Value) : (w.setCell ⟨B, i, none⟩ u).cell? ⟨B, i, none⟩ = some u := by
  obtain ⟨z, hz⟩ := (h.2 i hi).1
  exact World.cell?_setCell_same _ _ _ hz

theorem slots_new (w : World) (C : Array Value) (t : TypeId) : Slots (w.alloc (.cells C t)) w.heap.size C.size :=
  ⟨by simp, fun j hj => ⟨⟨C[j], by rw [World.cell?_alloc_mark]; simp [hj]⟩, by simp⟩⟩

/-- behind a call that lays blocks alone: the last two blocks that were laid ahead of it -/
theorem last_two {w w1 : World} {o : Obj} {C D : Array Value} {t u : TypeId} (hb : Below (((w.alloc o).alloc (.cells C t)).alloc (.cells D u)).heap.size (((w.alloc o).alloc (.cells C t)).alloc (.cells D u)) w1) :
    (∀ j, w1.cell? ⟨w.heap.size + 1, j, none⟩ = C[j]? ∧ w1.frozen? ⟨w.heap.size + 1, j, none⟩ = false) ∧ (∀ j, w1.cell? ⟨w.heap.size + 1 + 1, j, none⟩ = D[j]? ∧ w1.frozen? ⟨w.heap.size + 1 + 1, j, none⟩ = false) ∧ w.heap.size + 1 + 1 < w1.heap.size ∧ Below w.heap.size w w1 := by
  have hs : ((w.alloc o).alloc (.cells C t)).heap.size = w.heap.size + 1 + 1 := by simp
  have h1 : (w.alloc o).heap.size = w.heap.size + 1 := by simp
  refine ⟨fun j => ⟨?_, ?_⟩, fun j => ⟨?_, ?_⟩, ?_, ?_⟩
  · rw [hb.cell (by simp), ← h1, World.cell?_alloc_past _ _ _ (by simp), World.cell?_alloc_mark]
  · rw [hb.frozen (by simp), World.frozen?_alloc_past _ _ _ (by simp)]
    exact World.frozen?_alloc_at _ _ _ _ h1.symm
  · rw [hb.cell (by simp), ← hs, World.cell?_alloc_mark]
  · rw [hb.frozen (by simp)]
    exact World.frozen?_alloc_at _ _ _ _ hs.symm
  · have := hb.size
    simp at this
    omega
  · exact ((((Below.refl _ _).alloc (Nat.le_refl _) _).alloc (by simp) _).alloc (by simp; omega) _).trans (hb.mono (by simp; omega))

/-- block B holds just these cells -/
def Box (w : World) (B : Nat) (C : Array Value) : Prop := B < w.heap.size ∧ ∀ j, w.cell? ⟨B, j, none⟩ = C[j]?

theorem Box.below {w w' : World} {B : Nat} {C : Array Value} (h : Box w B C) (hb : Below w.heap.size w w') : Box w' B C :=
  ⟨Nat.lt_of_lt_of_le h.1 hb.size, fun j => by rw [hb.cell (by exact h.1)]; exact h.2 j⟩

theorem box_new (w : World) (C : Array Value) (t : TypeId) : Box (w.alloc (.cells C t)) w.heap.size C := ⟨by simp, fun j => by rw [World.cell?_alloc_mark]⟩

theorem Box.at0 {w : World} {B : Nat} {x : Value} {l : List Value} (h : Box w B ⟨x :: l⟩) : w.cell? ⟨B, 0, none⟩ = some x := h.2 0
theorem Box.at1 {w : World} {B : Nat} {x y : Value} {l : List Value} (h : Box w B ⟨x :: y :: l⟩) : w.cell? ⟨B, 1, none⟩ = some y := h.2 1
theorem Box.at2 {w : World} {B : Nat} {x y z : Value} {l : List Value} (h : Box w B ⟨x :: y :: z :: l⟩) : w.cell? ⟨B, 2, none⟩ = some z := h.2 2

theorem boxes_new (w : World) (C D : Array Value) (t u : TypeId) : Box ((w.alloc (.cells C t)).alloc (.cells D u)) w.heap.size C ∧ Box ((w.alloc (.cells C t)).alloc (.cells D u)) (w.heap.size + 1) D ∧ Below w.heap.size w ((w.alloc (.cells C t)).alloc (.cells D u)) := by
  refine ⟨(box_new w C t).below ((Below.refl _ _).alloc (Nat.le_refl _) _), ?_, ((Below.refl _ _).alloc (Nat.le_refl _) _).alloc (by simp) _⟩
  have := box_new (w.alloc (.cells C t)) D u
  simpa using this

theorem InsRow.at {B : Nat} {w : World} {A : Option Addr} {n cap : Nat} {c : List (Int × Int)} (h : InsRow B w (.slice A n cap) c) (k : Nat) (hk : k < c.length) :
    ∃ b off, A = some ⟨b, off, none⟩ ∧ b < w.heap.size ∧ w.cell? ⟨b, off + k * 2, none⟩ = some (.int .i64 c[k].1) ∧ w.cell? ⟨b, off + k * 2 + 1, none⟩ = some (.int .i64 c[k].2) := by
  obtain ⟨A', cap', he, _, hc⟩ := h
  simp only [Value.slice.injEq] at he
  obtain ⟨rfl, _, rfl⟩ := he
  obtain ⟨b, off, h1, _, h2⟩ := hc k hk
  exact ⟨b, off, h1, h2⟩

theorem FnRow.at {B : Nat} {w : World} {A : Option Addr} {n cap : Nat} {p : List FnM} (h : FnRow B w (.slice A n cap) p) (k : Nat) (hk : k < p.length) :
    ∃ b off x, A = some ⟨b, off, none⟩ ∧ b < w.heap.size ∧ w.cell? ⟨b, off + k * 3, none⟩ = some (.int .i64 p[k].args) ∧ w.cell? ⟨b, off + k * 3 + 1, none⟩ = some (.int .i64 p[k].locals) ∧ w.cell? ⟨b, off + k * 3 + 2, none⟩ = some x ∧ InsRow B w x p[k].code := by
  obtain ⟨A', cap', he, _, hc⟩ := h
  simp only [Value.slice.injEq] at he
  obtain ⟨rfl, _, rfl⟩ := he
  obtain ⟨b, off, x, h1, _, h2⟩ := hc k hk
  exact ⟨b, off, x, h1, h2⟩

theorem FnRow.len {B : Nat} {w : World} {v : Value} {p : List FnM} (h : FnRow B w v p) : p.length ≤ 9223372036854775807 := let ⟨_, _, _, hn, _⟩ := h; hn
end Go.Proofs.YtnknnncehcofnaaGreatDoor

namespace Go.Proofs.YtnknnncehcofnaaGreatDoor
open Go.RowKit

/-- block b holds these values, and may be written -/
def VRow (w : World) (b : Nat) (vs : List Value) : Prop := b < w.heap.size ∧ ∀ j (h : j < vs.length), w.cell? ⟨b, j, none⟩ = some vs[j] ∧ w.frozen? ⟨b, j, none⟩ = false

theorem VRow.below {w w' : World} {b : Nat} {vs : List Value} (h : VRow w b vs) (hb : Below w.heap.size w w') : VRow w' b vs :=
  ⟨Nat.lt_of_lt_of_le h.1 hb.size, fun j hj => by rw [hb.cell (by exact h.1), hb.frozen (by exact h.1)]; exact h.2 j hj⟩

theorem VRow.set_at {w : World} {b : Nat} {vs : List Value} (h : VRow w b vs) (k : Nat) (u : Value) (hk : k < vs.length) : VRow (w.setCell ⟨b, k, none⟩ u) b (vs.set k u) := by
  refine ⟨by simpa using h.1, fun j hj => ?_⟩
  have hj' : j < vs.length := by simpa using hj
  refine ⟨?_, by simpa using (h.2 j hj').2⟩
  by_cases he : k = j
  · subst he
    rw [World.cell?_setCell_same _ _ _ (h.2 k hk).1]
    simp
  · rw [cell_set_far _ _ _ _ _ he, (h.2 j hj').1]
    simp [he]

theorem VRow.set_far {w : World} {b : Nat} {vs : List Value} (h : VRow w b vs) (q : Addr) (u : Value) (hq : q.block ≠ b) : VRow (w.setCell q u) b vs := by
  refine ⟨by simpa using h.1, fun j hj => ⟨?_, by simpa using (h.2 j hj).2⟩⟩
  rw [World.cell?_setCell_other _ _ _ _ (by intro e; exact hq (by rw [e]))]
  exact (h.2 j hj).1

theorem vrow_new (w : World) (C : Array Value) (t : TypeId) : VRow (w.alloc (.cells C t)) w.heap.size C.toList :=
  ⟨by simp, fun j hj => ⟨by rw [World.cell?_alloc_mark]; simp at hj; simp [hj], by simp⟩⟩

/-- a row of numbers, of truths -/
def ints (zs : List Int) : List Value := zs.map (Value.int .i64)
def truths (bs : List Bool) : List Value := bs.map Value.bool

theorem ints_set (zs : List Int) (k : Nat) (x : Int) : (ints zs).set k (.int .i64 x) = ints (zs.set k x) := by simp [ints, List.map_set]
theorem truths_set (bs : List Bool) (k : Nat) (x : Bool) : (truths bs).set k (.bool x) = truths (bs.set k x) := by simp [truths, List.map_set]
theorem ints_length (zs : List Int) : (ints zs).length = zs.length := by simp [ints]
theorem truths_length (bs : List Bool) : (truths bs).length = bs.length := by simp [truths]

theorem VRow.int {w : World} {b : Nat} {zs : List Int} (h : VRow w b (ints zs)) (k : Nat) (hk : k < zs.length) : w.cell? ⟨b, k, none⟩ = some (.int .i64 (zs.getD k 0)) ∧ w.frozen? ⟨b, k, none⟩ = false := by
  have := h.2 k (by simpa [ints] using hk)
  simpa [ints, List.getD, hk] using this
theorem VRow.truth {w : World} {b : Nat} {bs : List Bool} (h : VRow w b (truths bs)) (k : Nat) (hk : k < bs.length) : w.cell? ⟨b, k, none⟩ = some (.bool (bs.getD k false)) ∧ w.frozen? ⟨b, k, none⟩ = false := by
  have := h.2 k (by simpa [truths] using hk)
  simpa [truths, List.getD, hk] using this
end Go.Proofs.YtnknnncehcofnaaGreatDoor

namespace Go.Proofs.YtnknnncehcofnaaGreatDoor
open Go.RowKit

/-- the slice v reads as these numbers; its cells lie in no block below B -/
def IRow (B : Nat) (w : World) (v : Value) (zs : List Int) : Prop :=
  ∃ A cap, v = .slice A zs.length cap ∧ zs.length ≤ 9223372036854775807 ∧ ∀ i (h : i < zs.length), ∃ b off, A = some ⟨b, off, none⟩ ∧ B ≤ b ∧ b < w.heap.size ∧ w.cell? ⟨b, off + i, none⟩ = some (.int .i64 zs[i])

theorem IRow.kept {B : Nat} {w w' : World} {v : Value} {zs : List Int} (h : IRow B w v zs) (hs : w.heap.size ≤ w'.heap.size) (hb : ∀ b j, B ≤ b → b < w.heap.size → w'.cell? ⟨b, j, none⟩ = w.cell? ⟨b, j, none⟩) : IRow B w' v zs := by
  obtain ⟨A, cap, rfl, hn, hc⟩ := h
  refine ⟨A, cap, rfl, hn, fun i hi => ?_⟩
  obtain ⟨b, off, rfl, hB, hlt, c0⟩ := hc i hi
  exact ⟨b, off, rfl, hB, Nat.lt_of_lt_of_le hlt hs, by rw [hb _ _ hB hlt]; exact c0⟩

theorem IRow.below {B : Nat} {w w' : World} {v : Value} {zs : List Int} (h : IRow B w v zs) (hb : Below w.heap.size w w') : IRow B w' v zs :=
  h.kept hb.size fun _ _ _ hl => hb.cell (by exact hl)

theorem IRow.set {B : Nat} {w : World} {v : Value} {zs : List Int} (h : IRow B w v zs) {q : Addr} (hq : q.block < B) (u : Value) : IRow B (w.setCell q u) v zs :=
  h.kept (by simp) fun b j hB _ => World.cell?_setCell_other _ _ _ _ (by intro e; rw [e] at hq; exact absurd hB (Nat.not_le_of_lt hq))

theorem IRow.lower {B B' : Nat} {w : World} {v : Value} {zs : List Int} (h : IRow B w v zs) (hB : B' ≤ B) : IRow B' w v zs := by
  obtain ⟨A, cap, rfl, hn, hc⟩ := h
  refine ⟨A, cap, rfl, hn, fun i hi => ?_⟩
  obtain ⟨b, off, rfl, h1, h2⟩ := hc i hi
  exact ⟨b, off, rfl, Nat.le_trans hB h1, h2⟩

theorem IRow.form {B : Nat} {w : World} {v : Value} {zs : List Int} (h : IRow B w v zs) : ∃ A cap, v = .slice A zs.length cap := let ⟨A, cap, h, _⟩ := h; ⟨A, cap, h⟩
theorem IRow.len {B : Nat} {w : World} {v : Value} {zs : List Int} (h : IRow B w v zs) : zs.length ≤ 9223372036854775807 := let ⟨_, _, _, hn, _⟩ := h; hn

theorem IRow.at {B : Nat} {w : World} {A : Option Addr} {n cap : Nat} {zs : List Int} (h : IRow B w (.slice A n cap) zs) (k : Nat) (hk : k < zs.length) :
    ∃ b off, A = some ⟨b, off, none⟩ ∧ B ≤ b ∧ b < w.heap.size ∧ w.cell? ⟨b, off + k, none⟩ = some (.int .i64 zs[k]) := by
  obtain ⟨A', cap', he, _, hc⟩ := h
  simp only [Value.slice.injEq] at he
  obtain ⟨rfl, _, rfl⟩ := he
  exact hc k hk

theorem ints_snoc (l : List Int) (x : Int) : ints (l ++ [x]) = ints l ++ [.int .i64 x] := by simp [ints]

/-- of a row of the call's own -/
theorem IRow.of_owns {B : Nat} {w : World} {v : Value} {zs : List Int} (h : w.ownsRow B 2 1 v zs.length (ints zs)) (hn : zs.length ≤ 9223372036854775807) : IRow B w v zs := by
  obtain ⟨h1, h2⟩ := h
  rcases h2 with ⟨rfl, h0⟩ | ⟨g, cap, cur, rfl, hb, hh, hn', hm, hs, ht⟩
  · exact ⟨none, 0, by rw [h0], hn, fun i hi => by omega⟩
  · refine ⟨_, cap, rfl, hn, fun i hi => ⟨g, 0, rfl, hb, (Array.getElem?_eq_some_iff.1 hh).1, ?_⟩⟩
    have hc := World.ownsRow.cells (w := w) (base := B) (e := 2) (size := 1) (n := zs.length) (xs := ints zs) ⟨h1, .inr ⟨g, cap, cur, rfl, hb, hh, hn', hm, hs, ht⟩⟩ (g := g) rfl i (.int .i64 zs[i]) (by simp [ints, hi])
    rwa [Addr.add_lit] at hc

/-- .. that is not nil: where it lies -/
theorem own_form {B : Nat} {w : World} {v : Value} {zs : List Int} (h : w.ownsRow B 2 1 v zs.length (ints zs)) (hn : v ≠ .slice none 0 0) :
    ∃ g cap, v = .slice (some ⟨g, 0, none⟩) zs.length cap ∧ (B ≤ g ∧ g < w.heap.size) ∧ ∀ i (h : i < zs.length), w.cell? ⟨g, i, none⟩ = some (.int .i64 zs[i]) := by
  obtain ⟨h1, h2⟩ := h
  rcases h2 with ⟨rfl, _⟩ | ⟨g, cap, cur, rfl, hb, hh, hn', hm, hs, ht⟩
  · exact absurd rfl hn
  · refine ⟨g, cap, rfl, ⟨hb, (Array.getElem?_eq_some_iff.1 hh).1⟩, fun i hi => ?_⟩
    have hc := World.ownsRow.cells (w := w) (base := B) (e := 2) (size := 1) (n := zs.length) (xs := ints zs) ⟨h1, .inr ⟨g, cap, cur, rfl, hb, hh, hn', hm, hs, ht⟩⟩ (g := g) rfl i (.int .i64 zs[i]) (by simp [ints, hi])
    rwa [Addr.add_lit, Nat.zero_add] at hc

theorem irow_at {w : World} {g : Nat} {zs : List Int} (B cap : Nat) (hB : B ≤ g) (hg : g < w.heap.size) (hc : ∀ i (h : i < zs.length), w.cell? ⟨g, i, none⟩ = some (.int .i64 zs[i])) (hn : zs.length ≤ 9223372036854775807) : IRow B w (.slice (some ⟨g, 0, none⟩) zs.length cap) zs :=
  ⟨_, cap, rfl, hn, fun i hi => ⟨g, 0, rfl, hB, hg, by rw [Nat.zero_add]; exact hc i hi⟩⟩

theorem IRow.cell {B : Nat} {w : World} {g off n cap : Nat} {zs : List Int} (h : IRow B w (.slice (some ⟨g, off, none⟩) n cap) zs) (k : Nat) (hk : k < zs.length) : B ≤ g ∧ g < w.heap.size ∧ w.cell? ⟨g, off + k, none⟩ = some (.int .i64 zs[k]) := by
  obtain ⟨b, off', he, h1, h2, h3⟩ := h.at k hk
  simp only [Option.some.injEq, Addr.mk.injEq, and_true] at he
  obtain ⟨rfl, rfl⟩ := he
  exact ⟨h1, h2, h3⟩

/-- a block that holds them all from its beginning -/
theorem IRow.of_vrow {w : World} {b B : Nat} {zs : List Int} (cap : Nat) (h : VRow w b (ints zs)) (hB : B ≤ b) (hn : zs.length ≤ 9223372036854775807) : IRow B w (.slice (some ⟨b, 0, none⟩) zs.length cap) zs :=
  ⟨_, cap, rfl, hn, fun i hi => ⟨b, 0, rfl, hB, h.1, by have := (h.int i hi).1; simpa [List.getD, hi] using this⟩⟩

theorem Box.set_far {w : World} {B : Nat} {C : Array Value} (h : Box w B C) (q : Addr) (u : Value) (hq : q.block ≠ B) : Box (w.setCell q u) B C :=
  ⟨by simpa using h.1, fun j => by rw [World.cell?_setCell_other _ _ _ _ (by intro e; exact hq (by rw [e]))]; exact h.2 j⟩

theorem Tryz.info64 : (Tryz.prog.info? 2).map (fun i => (i.zero, i.size, i.bytes)) = some (some (.int .i64 0), 1, 8) := by kernel_rfl

theorem IRow.block {B : Nat} {w w' : World} {g off n cap : Nat} {zs : List Int} (h : IRow B w (.slice (some ⟨g, off, none⟩) n cap) zs) (hs : w.heap.size ≤ w'.heap.size) (hb : w'.heap[g]? = w.heap[g]?) : IRow B w' (.slice (some ⟨g, off, none⟩) n cap) zs := by
  obtain ⟨A, cap', he, hn, hc⟩ := h
  refine ⟨A, cap', he, hn, fun i hi => ?_⟩
  simp only [Value.slice.injEq] at he
  obtain ⟨rfl, _, _⟩ := he
  obtain ⟨b, o, hA, h1, h2, h3⟩ := hc i hi
  simp only [Option.some.injEq, Addr.mk.injEq, and_true] at hA
  obtain ⟨rfl, rfl⟩ := hA
  exact ⟨g, off, rfl, h1, Nat.lt_of_lt_of_le h2 hs, by rw [World.cell?_of_block (w := w) (by exact hb)]; exact h3⟩

theorem three_box (w : World) (C D E : Array Value) (t u s : TypeId) : Box (((w.alloc (.cells C t)).alloc (.cells D u)).alloc (.cells E s)) w.heap.size C ∧ VRow (((w.alloc (.cells C t)).alloc (.cells D u)).alloc (.cells E s)) (w.heap.size + 1) D.toList ∧
    Box (((w.alloc (.cells C t)).alloc (.cells D u)).alloc (.cells E s)) (w.heap.size + 1 + 1) E ∧ Below w.heap.size w (((w.alloc (.cells C t)).alloc (.cells D u)).alloc (.cells E s)) := by
  obtain ⟨x0, _, x2⟩ := boxes_new w C D t u
  have h1 : (w.alloc (.cells C t)).heap.size = w.heap.size + 1 := by simp
  have h2 : ((w.alloc (.cells C t)).alloc (.cells D u)).heap.size = w.heap.size + 1 + 1 := by simp
  have y1 := vrow_new (w.alloc (.cells C t)) D u
  have y2 := box_new ((w.alloc (.cells C t)).alloc (.cells D u)) E s
  rw [h1] at y1
  rw [h2] at y2
  have hb : Below ((w.alloc (.cells C t)).alloc (.cells D u)).heap.size ((w.alloc (.cells C t)).alloc (.cells D u)) (((w.alloc (.cells C t)).alloc (.cells D u)).alloc (.cells E s)) := (Below.refl _ _).alloc (Nat.le_refl _) _
  exact ⟨x0.below hb, y1.below hb, y2, x2.trans (hb.mono x2.size)⟩
end Go.Proofs.YtnknnncehcofnaaGreatDoor

namespace Go.Proofs.YtnknnncehcofnaaGreatDoor
open Go.RowKit

structure FrM where
  func : Int
  pc : Int
  locals : List Int
  stack : List Int
  deriving DecidableEq, Inhabited

structure StM where
  frames : List FrM
  heap : List (List Int)
  out : List Int
  fuel : Int
  done : Bool
  value : Int
  trap : Int
  deriving DecidableEq, Inhabited

/-- the slice v reads as these frames; its cells lie in no block below B -/
def FrRow (B : Nat) (w : World) (v : Value) (fs : List FrM) : Prop :=
  ∃ A cap, v = .slice A fs.length cap ∧ fs.length ≤ 9223372036854775807 ∧ ∀ i (h : i < fs.length), ∃ b off x y, A = some ⟨b, off, none⟩ ∧ B ≤ b ∧ b < w.heap.size ∧
    w.cell? ⟨b, off + i * 4, none⟩ = some (.int .i64 fs[i].func) ∧ w.cell? ⟨b, off + i * 4 + 1, none⟩ = some (.int .i64 fs[i].pc) ∧ w.cell? ⟨b, off + i * 4 + 2, none⟩ = some x ∧ w.cell? ⟨b, off + i * 4 + 3, none⟩ = some y ∧ IRow B w x fs[i].locals ∧ IRow B w y fs[i].stack

/-- the slice v reads as these arrays -/
def ArrRow (B : Nat) (w : World) (v : Value) (hs : List (List Int)) : Prop :=
  ∃ A cap, v = .slice A hs.length cap ∧ hs.length ≤ 9223372036854775807 ∧ ∀ i (h : i < hs.length), ∃ b off x, A = some ⟨b, off, none⟩ ∧ B ≤ b ∧ b < w.heap.size ∧ w.cell? ⟨b, off + i, none⟩ = some x ∧ IRow B w x hs[i]

/-- the three lists and four fields of a state -/
def StRow (B : Nat) (w : World) (x y z : Value) (s : StM) : Prop := FrRow B w x s.frames ∧ ArrRow B w y s.heap ∧ IRow B w z s.out

def stV (x y z : Value) (s : StM) : Value := .agg #[x, y, z, .int .i64 s.fuel, .bool s.done, .int .i64 s.value, .int .i64 s.trap]

theorem FrRow.kept {B : Nat} {w w' : World} {v : Value} {fs : List FrM} (h : FrRow B w v fs) (hs : w.heap.size ≤ w'.heap.size) (hb : ∀ b j, B ≤ b → b < w.heap.size → w'.cell? ⟨b, j, none⟩ = w.cell? ⟨b, j, none⟩) : FrRow B w' v fs := by
  obtain ⟨A, cap, rfl, hn, hc⟩ := h
  refine ⟨A, cap, rfl, hn, fun i hi => ?_⟩
  obtain ⟨b, off, x, y, rfl, hB, hlt, c0, c1, c2, c3, hx, hy⟩ := hc i hi
  exact ⟨b, off, x, y, rfl, hB, Nat.lt_of_lt_of_le hlt hs, by rw [hb _ _ hB hlt]; exact c0, by rw [hb _ _ hB hlt]; exact c1, by rw [hb _ _ hB hlt]; exact c2, by rw [hb _ _ hB hlt]; exact c3, hx.kept hs hb, hy.kept hs hb⟩

theorem ArrRow.kept {B : Nat} {w w' : World} {v : Value} {p : List (List Int)} (h : ArrRow B w v p) (hs : w.heap.size ≤ w'.heap.size) (hb : ∀ b j, B ≤ b → b < w.heap.size → w'.cell? ⟨b, j, none⟩ = w.cell? ⟨b, j, none⟩) : ArrRow B w' v p := by
  obtain ⟨A, cap, rfl, hn, hc⟩ := h
  refine ⟨A, cap, rfl, hn, fun i hi => ?_⟩
  obtain ⟨b, off, x, rfl, hB, hlt, c0, hx⟩ := hc i hi
  exact ⟨b, off, x, rfl, hB, Nat.lt_of_lt_of_le hlt hs, by rw [hb _ _ hB hlt]; exact c0, hx.kept hs hb⟩

theorem FrRow.below {B : Nat} {w w' : World} {v : Value} {fs : List FrM} (h : FrRow B w v fs) (hb : Below w.heap.size w w') : FrRow B w' v fs :=
  h.kept hb.size fun _ _ _ hl => hb.cell (by exact hl)
theorem ArrRow.below {B : Nat} {w w' : World} {v : Value} {p : List (List Int)} (h : ArrRow B w v p) (hb : Below w.heap.size w w') : ArrRow B w' v p :=
  h.kept hb.size fun _ _ _ hl => hb.cell (by exact hl)
theorem StRow.below {B : Nat} {w w' : World} {x y z : Value} {s : StM} (h : StRow B w x y z s) (hb : Below w.heap.size w w') : StRow B w' x y z s := ⟨h.1.below hb, h.2.1.below hb, h.2.2.below hb⟩

theorem FrRow.set {B : Nat} {w : World} {v : Value} {fs : List FrM} (h : FrRow B w v fs) {q : Addr} (hq : q.block < B) (u : Value) : FrRow B (w.setCell q u) v fs :=
  h.kept (by simp) fun b j hB _ => World.cell?_setCell_other _ _ _ _ (by intro e; rw [e] at hq; exact absurd hB (Nat.not_le_of_lt hq))
theorem ArrRow.set {B : Nat} {w : World} {v : Value} {fs : List (List Int)} (h : ArrRow B w v fs) {q : Addr} (hq : q.block < B) (u : Value) : ArrRow B (w.setCell q u) v fs :=
  h.kept (by simp) fun b j hB _ => World.cell?_setCell_other _ _ _ _ (by intro e; rw [e] at hq; exact absurd hB (Nat.not_le_of_lt hq))
theorem StRow.set {B : Nat} {w : World} {x y z : Value} {s : StM} (h : StRow B w x y z s) {q : Addr} (hq : q.block < B) (u : Value) : StRow B (w.setCell q u) x y z s := ⟨h.1.set hq u, h.2.1.set hq u, h.2.2.set hq u⟩

theorem FrRow.lower {B B' : Nat} {w : World} {v : Value} {fs : List FrM} (h : FrRow B w v fs) (hB : B' ≤ B) : FrRow B' w v fs := by
  obtain ⟨A, cap, rfl, hn, hc⟩ := h
  refine ⟨A, cap, rfl, hn, fun i hi => ?_⟩
  obtain ⟨b, off, x, y, rfl, h1, h2, h3, h4, h5, h6, hx, hy⟩ := hc i hi
  exact ⟨b, off, x, y, rfl, Nat.le_trans hB h1, h2, h3, h4, h5, h6, hx.lower hB, hy.lower hB⟩
theorem ArrRow.lower {B B' : Nat} {w : World} {v : Value} {fs : List (List Int)} (h : ArrRow B w v fs) (hB : B' ≤ B) : ArrRow B' w v fs := by
  obtain ⟨A, cap, rfl, hn, hc⟩ := h
  refine ⟨A, cap, rfl, hn, fun i hi => ?_⟩
  obtain ⟨b, off, x, rfl, h1, h2, h3, hx⟩ := hc i hi
  exact ⟨b, off, x, rfl, Nat.le_trans hB h1, h2, h3, hx.lower hB⟩
theorem StRow.lower {B B' : Nat} {w : World} {x y z : Value} {s : StM} (h : StRow B w x y z s) (hB : B' ≤ B) : StRow B' w x y z s := ⟨h.1.lower hB, h.2.1.lower hB, h.2.2.lower hB⟩

theorem FrRow.form {B : Nat} {w : World} {v : Value} {p : List FrM} (h : FrRow B w v p) : ∃ A cap, v = .slice A p.length cap := let ⟨A, cap, h, _⟩ := h; ⟨A, cap, h⟩
theorem ArrRow.form {B : Nat} {w : World} {v : Value} {p : List (List Int)} (h : ArrRow B w v p) : ∃ A cap, v = .slice A p.length cap := let ⟨A, cap, h, _⟩ := h; ⟨A, cap, h⟩
theorem FrRow.len {B : Nat} {w : World} {v : Value} {p : List FrM} (h : FrRow B w v p) : p.length ≤ 9223372036854775807 := let ⟨_, _, _, hn, _⟩ := h; hn
theorem ArrRow.len {B : Nat} {w : World} {v : Value} {p : List (List Int)} (h : ArrRow B w v p) : p.length ≤ 9223372036854775807 := let ⟨_, _, _, hn, _⟩ := h; hn

theorem FrRow.at {B : Nat} {w : World} {A : Option Addr} {n cap : Nat} {fs : List FrM} (h : FrRow B w (.slice A n cap) fs) (k : Nat) (hk : k < fs.length) :
    ∃ b off x y, A = some ⟨b, off, none⟩ ∧ b < w.heap.size ∧ w.cell? ⟨b, off + k * 4, none⟩ = some (.int .i64 fs[k].func) ∧ w.cell? ⟨b, off + k * 4 + 1, none⟩ = some (.int .i64 fs[k].pc) ∧ w.cell? ⟨b, off + k * 4 + 2, none⟩ = some x ∧ w.cell? ⟨b, off + k * 4 + 3, none⟩ = some y ∧ IRow B w x fs[k].locals ∧ IRow B w y fs[k].stack := by
  obtain ⟨A', cap', he, _, hc⟩ := h
  simp only [Value.slice.injEq] at he
  obtain ⟨rfl, _, rfl⟩ := he
  obtain ⟨b, off, x, y, h1, _, h2⟩ := hc k hk
  exact ⟨b, off, x, y, h1, h2⟩

theorem ArrRow.at {B : Nat} {w : World} {A : Option Addr} {n cap : Nat} {fs : List (List Int)} (h : ArrRow B w (.slice A n cap) fs) (k : Nat) (hk : k < fs.length) :
    ∃ b off x, A = some ⟨b, off, none⟩ ∧ b < w.heap.size ∧ w.cell? ⟨b, off + k, none⟩ = some x ∧ IRow B w x fs[k] := by
  obtain ⟨A', cap', he, _, hc⟩ := h
  simp only [Value.slice.injEq] at he
  obtain ⟨rfl, _, rfl⟩ := he
  obtain ⟨b, off, x, h1, _, h2⟩ := hc k hk
  exact ⟨b, off, x, h1, h2⟩

/-- how much it holds -/
def FrM.bulk (f : FrM) : Nat := f.locals.length + f.stack.length
def bulkF (fs : List FrM) : Nat := fs.length + (fs.map FrM.bulk).sum
def bulkH (hs : List (List Int)) : Nat := hs.length + (hs.map List.length).sum
def StM.bulk (s : StM) : Nat := bulkF s.frames + bulkH s.heap + s.out.length

theorem sum_le {α : Type} (g : α → Nat) (l : List α) (k : Nat) (h : k < l.length) : g l[k] ≤ (l.map g).sum := by
  have h1 : (l.map g).sum = ((l.take k).map g).sum + ((l.drop k).map g).sum := by
    conv => lhs; rw [← List.take_append_drop k l, List.map_append, List.sum_append]
  rw [List.drop_eq_getElem_cons h, List.map_cons, List.sum_cons] at h1
  omega
theorem sum_succ {α : Type} (g : α → Nat) (l : List α) (k : Nat) (h : k < l.length) : ((l.take (k + 1)).map g).sum = ((l.take k).map g).sum + g l[k] := by
  rw [List.take_succ_eq_append_getElem h, List.map_append, List.sum_append]
  simp
theorem sum_part {α : Type} (g : α → Nat) (l : List α) (k : Nat) : ((l.take k).map g).sum ≤ (l.map g).sum := by
  conv => rhs; rw [← List.take_append_drop k l, List.map_append, List.sum_append]
  omega
end Go.Proofs.YtnknnncehcofnaaGreatDoor
