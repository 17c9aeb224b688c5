/- Programs as they lie in memory: what a list of instructions, and one of functions, reads as; and that it does so still behind a call that changes nothing below it. -/
import Derived.Test.YtijgonjnmibifaaGreatDoorRows
import Derived.WalkKit
import Derived.WalkLawsBesides
import Derived.WalkSpells
import Derived.OwnWalk
import Derived.Below
import Derived.Deep.OwnRows
import Derived.Laws.IdiomStrings
import Derived.Deep.QuietTactic
import Derived.BigQuiet
namespace Go.Proofs.YtijgonjnmibifaaGreatDoor
open Go.RowKit

structure FnM where
  args : Int
  locals : Int
  code : List (Int × Int)
  deriving DecidableEq

/-- the slice v reads as these instructions; its cells lie in no block below B -/
def InsRow (B : Nat) (w : World) (v : Value) (c : List (Int × Int)) : Prop :=
  ∃ A cap, v = .slice A c.length cap ∧ c.length ≤ 9223372036854775807 ∧ ∀ i (h : i < c.length), ∃ b off, A = some ⟨b, off, none⟩ ∧ B ≤ b ∧ b < w.heap.size ∧
    w.cell? ⟨b, off + i * 2, none⟩ = some (.int .i64 c[i].1) ∧ w.cell? ⟨b, off + i * 2 + 1, none⟩ = some (.int .i64 c[i].2)

/-- the slice v reads as these functions -/
def FnRow (B : Nat) (w : World) (v : Value) (p : List FnM) : Prop :=
  ∃ A cap, v = .slice A p.length cap ∧ p.length ≤ 9223372036854775807 ∧ ∀ i (h : i < p.length), ∃ b off x, A = some ⟨b, off, none⟩ ∧ B ≤ b ∧ b < w.heap.size ∧
    w.cell? ⟨b, off + i * 3, none⟩ = some (.int .i64 p[i].args) ∧ w.cell? ⟨b, off + i * 3 + 1, none⟩ = some (.int .i64 p[i].locals) ∧ w.cell? ⟨b, off + i * 3 + 2, none⟩ = some x ∧ InsRow B w x p[i].code

/-- .. where nothing changes in the blocks that w has and that do not lie below B -/
theorem InsRow.kept {B : Nat} {w w' : World} {v : Value} {c : List (Int × Int)} (h : InsRow B w v c) (hs : w.heap.size ≤ w'.heap.size) (hb : ∀ b j, B ≤ b → b < w.heap.size → w'.cell? ⟨b, j, none⟩ = w.cell? ⟨b, j, none⟩) : InsRow B w' v c := by
  obtain ⟨A, cap, rfl, hn, hc⟩ := h
  refine ⟨A, cap, rfl, hn, fun i hi => ?_⟩
  obtain ⟨b, off, rfl, hB, hlt, c0, c1⟩ := hc i hi
  exact ⟨b, off, rfl, hB, Nat.lt_of_lt_of_le hlt hs, by rw [hb _ _ hB hlt]; exact c0, by rw [hb _ _ hB hlt]; exact c1⟩

theorem FnRow.kept {B : Nat} {w w' : World} {v : Value} {p : List FnM} (h : FnRow B w v p) (hs : w.heap.size ≤ w'.heap.size) (hb : ∀ b j, B ≤ b → b < w.heap.size → w'.cell? ⟨b, j, none⟩ = w.cell? ⟨b, j, none⟩) : FnRow B w' v p := by
  obtain ⟨A, cap, rfl, hn, hc⟩ := h
  refine ⟨A, cap, rfl, hn, fun i hi => ?_⟩
  obtain ⟨b, off, x, rfl, hB, hlt, c0, c1, c2, hx⟩ := hc i hi
  exact ⟨b, off, x, rfl, hB, Nat.lt_of_lt_of_le hlt hs, by rw [hb _ _ hB hlt]; exact c0, by rw [hb _ _ hB hlt]; exact c1, by rw [hb _ _ hB hlt]; exact c2, hx.kept hs hb⟩

theorem InsRow.below {B : Nat} {w w' : World} {v : Value} {c : List (Int × Int)} (h : InsRow B w v c) (hb : Below w.heap.size w w') : InsRow B w' v c :=
  h.kept hb.size fun _ _ _ hl => hb.cell (by exact hl)

theorem FnRow.below {B : Nat} {w w' : World} {v : Value} {p : List FnM} (h : FnRow B w v p) (hb : Below w.heap.size w w') : FnRow B w' v p :=
  h.kept hb.size fun _ _ _ hl => hb.cell (by exact hl)

theorem InsRow.set {B : Nat} {w : World} {v : Value} {c : List (Int × Int)} (h : InsRow B w v c) {q : Addr} (hq : q.block < B) (u : Value) : InsRow B (w.setCell q u) v c :=
  h.kept (by simp) fun b j hB _ => World.cell?_setCell_other _ _ _ _ (by intro e; rw [e] at hq; exact absurd hB (Nat.not_le_of_lt hq))

theorem FnRow.set {B : Nat} {w : World} {v : Value} {p : List FnM} (h : FnRow B w v p) {q : Addr} (hq : q.block < B) (u : Value) : FnRow B (w.setCell q u) v p :=
  h.kept (by simp) fun b j hB _ => World.cell?_setCell_other _ _ _ _ (by intro e; rw [e] at hq; exact absurd hB (Nat.not_le_of_lt hq))

theorem InsRow.lower {B B' : Nat} {w : World} {v : Value} {c : List (Int × Int)} (h : InsRow B w v c) (hB : B' ≤ B) : InsRow B' w v c := by
  obtain ⟨A, cap, rfl, hn, hc⟩ := h
  refine ⟨A, cap, rfl, hn, fun i hi => ?_⟩
  obtain ⟨b, off, rfl, h1, h2⟩ := hc i hi
  exact ⟨b, off, rfl, Nat.le_trans hB h1, h2⟩

theorem FnRow.lower {B B' : Nat} {w : World} {v : Value} {p : List FnM} (h : FnRow B w v p) (hB : B' ≤ B) : FnRow B' w v p := by
  obtain ⟨A, cap, rfl, hn, hc⟩ := h
  refine ⟨A, cap, rfl, hn, fun i hi => ?_⟩
  obtain ⟨b, off, x, rfl, h1, h2, h3, h4, h5, hx⟩ := hc i hi
  exact ⟨b, off, x, rfl, Nat.le_trans hB h1, h2, h3, h4, h5, hx.lower hB⟩

theorem InsRow.form {B : Nat} {w : World} {v : Value} {c : List (Int × Int)} (h : InsRow B w v c) : ∃ A cap, v = .slice A c.length cap := let ⟨A, cap, h, _⟩ := h; ⟨A, cap, h⟩
theorem FnRow.form {B : Nat} {w : World} {v : Value} {p : List FnM} (h : FnRow B w v p) : ∃ A cap, v = .slice A p.length cap := let ⟨A, cap, h, _⟩ := h; ⟨A, cap, h⟩

/-- how much a program holds: its functions and their instructions -/
def bulk (p : List FnM) : Nat := p.length + (p.map fun f => f.code.length).sum

theorem code_le_bulk (p : List FnM) (k : Nat) (h : k < p.length) : p[k].code.length ≤ bulk p := by
  have h1 : (p.map fun f => f.code.length).sum = ((p.take k).map fun f => f.code.length).sum + ((p.drop k).map fun f => f.code.length).sum := by
    conv => lhs; rw [← List.take_append_drop k p, List.map_append, List.sum_append]
  rw [List.drop_eq_getElem_cons h, List.map_cons, List.sum_cons] at h1
  unfold bulk; omega

/-- the first n cells of block B are there, and may be written -/
def Slots (w : World) (B n : Nat) : Prop := B < w.heap.size ∧ ∀ j, j < n → (∃ z, w.cell? ⟨B, j, none⟩ = some z) ∧ w.frozen? ⟨B, j, none⟩ = false

theorem Slots.below {B n : Nat} {w w' : World} (h : Slots w B n) (hb : Below w.heap.size w w') : Slots w' B n :=
  ⟨Nat.lt_of_lt_of_le h.1 hb.size, fun j hj => by rw [hb.cell (by exact h.1), hb.frozen (by exact h.1)]; exact h.2 j hj⟩

theorem Slots.set {B n : Nat} {w : World} (h : Slots w B n) (i : Nat) (u : Value) : Slots (w.setCell ⟨B, i, none⟩ u) B n := by
  refine ⟨by simpa using h.1, fun j hj => ⟨?_, by simpa using (h.2 j hj).2⟩⟩
  by_cases hij : i = j
  · subst hij
    obtain ⟨z, hz⟩ := (h.2 i hj).1
    exact ⟨u, World.cell?_setCell_same _ _ _ hz⟩
  · rw [World.cell?_setCell_other _ _ _ _ (by simp)]
    exact (h.2 j hj).1

theorem cell_set_far (w : World) (B i j : Nat) (u : Value) (_ : i ≠ j) : (w.setCell ⟨B, i, none⟩ u).cell? ⟨B, j, none⟩ = w.cell? ⟨B, j, none⟩ := World.cell?_setCell_other _ _ _ _ (by simp)

theorem cell_set_at {w : World} {B i n : Nat} (h : Slots w B n) (hi : i < n) (u : Value) : (w.setCell ⟨B, i, none⟩ u).cell? ⟨B, i, none⟩ = some u := by
  obtain ⟨z, hz⟩ := (h.2 i hi).1
  exact World.cell?_setCell_same _ _ _ hz

theorem slots_new (w : World) (C : Array Value) (t : TypeId) : Slots (w.alloc (.cells C t)) w.heap.size C.size :=
  ⟨by simp, fun j hj => ⟨⟨C[j], by rw [World.cell?_alloc_mark]; simp [hj]⟩, by simp⟩⟩

/-- behind a call that lays blocks alone: the last two blocks that were laid ahead of it -/
theorem last_two {w w1 : World} {o : Obj} {C D : Array Value} {t u : TypeId} (hb : Below (((w.alloc o).alloc (.cells C t)).alloc (.cells D u)).heap.size (((w.alloc o).alloc (.cells C t)).alloc (.cells D u)) w1) :
    (∀ j, w1.cell? ⟨w.heap.size + 1, j, none⟩ = C[j]? ∧ w1.frozen? ⟨w.heap.size + 1, j, none⟩ = false) ∧ (∀ j, w1.cell? ⟨w.heap.size + 1 + 1, j, none⟩ = D[j]? ∧ w1.frozen? ⟨w.heap.size + 1 + 1, j, none⟩ = false) ∧ w.heap.size + 1 + 1 < w1.heap.size ∧ Below w.heap.size w w1 := by
  have hs : ((w.alloc o).alloc (.cells C t)).heap.size = w.heap.size + 1 + 1 := by simp
  have h1 : (w.alloc o).heap.size = w.heap.size + 1 := by simp
  refine ⟨fun j => ⟨?_, ?_⟩, fun j => ⟨?_, ?_⟩, ?_, ?_⟩
  · rw [hb.cell (by simp), ← h1, World.cell?_alloc_past _ _ _ (by simp), World.cell?_alloc_mark]
  · rw [hb.frozen (by simp), World.frozen?_alloc_past _ _ _ (by simp)]
    exact World.frozen?_alloc_at _ _ _ _ h1.symm
  · rw [hb.cell (by simp), ← hs, World.cell?_alloc_mark]
  · rw [hb.frozen (by simp)]
    exact World.frozen?_alloc_at _ _ _ _ hs.symm
  · have := hb.size
    simp at this
    omega
  · exact ((((Below.refl _ _).alloc (Nat.le_refl _) _).alloc (by simp) _).alloc (by simp; omega) _).trans (hb.mono (by simp; omega))

/-- block B holds just these cells -/
def Box (w : World) (B : Nat) (C : Array Value) : Prop := B < w.heap.size ∧ ∀ j, w.cell? ⟨B, j, none⟩ = C[j]?

theorem Box.below {w w' : World} {B : Nat} {C : Array Value} (h : Box w B C) (hb : Below w.heap.size w w') : Box w' B C :=
  ⟨Nat.lt_of_lt_of_le h.1 hb.size, fun j => by rw [hb.cell (by exact h.1)]; exact h.2 j⟩

theorem box_new (w : World) (C : Array Value) (t : TypeId) : Box (w.alloc (.cells C t)) w.heap.size C := ⟨by simp, fun j => by rw [World.cell?_alloc_mark]⟩

theorem Box.at0 {w : World} {B : Nat} {x : Value} {l : List Value} (h : Box w B ⟨x :: l⟩) : w.cell? ⟨B, 0, none⟩ = some x := h.2 0
theorem Box.at1 {w : World} {B : Nat} {x y : Value} {l : List Value} (h : Box w B ⟨x :: y :: l⟩) : w.cell? ⟨B, 1, none⟩ = some y := h.2 1
theorem Box.at2 {w : World} {B : Nat} {x y z : Value} {l : List Value} (h : Box w B ⟨x :: y :: z :: l⟩) : w.cell? ⟨B, 2, none⟩ = some z := h.2 2

theorem boxes_new (w : World) (C D : Array Value) (t u : TypeId) : Box ((w.alloc (.cells C t)).alloc (.cells D u)) w.heap.size C ∧ Box ((w.alloc (.cells C t)).alloc (.cells D u)) (w.heap.size + 1) D ∧ Below w.heap.size w ((w.alloc (.cells C t)).alloc (.cells D u)) := by
  refine ⟨(box_new w C t).below ((Below.refl _ _).alloc (Nat.le_refl _) _), ?_, ((Below.refl _ _).alloc (Nat.le_refl _) _).alloc (by simp) _⟩
  have := box_new (w.alloc (.cells C t)) D u
  simpa using this

theorem InsRow.at {B : Nat} {w : World} {A : Option Addr} {n cap : Nat} {c : List (Int × Int)} (h : InsRow B w (.slice A n cap) c) (k : Nat) (hk : k < c.length) :
    ∃ b off, A = some ⟨b, off, none⟩ ∧ b < w.heap.size ∧ w.cell? ⟨b, off + k * 2, none⟩ = some (.int .i64 c[k].1) ∧ w.cell? ⟨b, off + k * 2 + 1, none⟩ = some (.int .i64 c[k].2) := by
  obtain ⟨A', cap', he, _, hc⟩ := h
  simp only [Value.slice.injEq] at he
  obtain ⟨rfl, _, rfl⟩ := he
  obtain ⟨b, off, h1, _, h2⟩ := hc k hk
  exact ⟨b, off, h1, h2⟩

theorem FnRow.at {B : Nat} {w : World} {A : Option Addr} {n cap : Nat} {p : List FnM} (h : FnRow B w (.slice A n cap) p) (k : Nat) (hk : k < p.length) :
    ∃ b off x, A = some ⟨b, off, none⟩ ∧ b < w.heap.size ∧ w.cell? ⟨b, off + k * 3, none⟩ = some (.int .i64 p[k].args) ∧ w.cell? ⟨b, off + k * 3 + 1, none⟩ = some (.int .i64 p[k].locals) ∧ w.cell? ⟨b, off + k * 3 + 2, none⟩ = some x ∧ InsRow B w x p[k].code := by
  obtain ⟨A', cap', he, _, hc⟩ := h
  simp only [Value.slice.injEq] at he
  obtain ⟨rfl, _, rfl⟩ := he
  obtain ⟨b, off, x, h1, _, h2⟩ := hc k hk
  exact ⟨b, off, x, h1, h2⟩

theorem FnRow.len {B : Nat} {w : World} {v : Value} {p : List FnM} (h : FnRow B w v p) : p.length ≤ 9223372036854775807 := let ⟨_, _, _, hn, _⟩ := h; hn
end Go.Proofs.YtijgonjnmibifaaGreatDoor
