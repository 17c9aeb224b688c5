/- A slice of numbers: what it reads as; one that the call itself made, and appends to. -/
import Derived.Test.YtijgonjnmibifaaGreatDoorVRow
namespace Go.Proofs.YtijgonjnmibifaaGreatDoor
open Go.RowKit

/-- the slice v reads as these numbers; its cells lie in no block below B -/
def IRow (B : Nat) (w : World) (v : Value) (zs : List Int) : Prop :=
  ∃ A cap, v = .slice A zs.length cap ∧ zs.length ≤ 9223372036854775807 ∧ ∀ i (h : i < zs.length), ∃ b off, A = some ⟨b, off, none⟩ ∧ B ≤ b ∧ b < w.heap.size ∧ w.cell? ⟨b, off + i, none⟩ = some (.int .i64 zs[i])

theorem IRow.kept {B : Nat} {w w' : World} {v : Value} {zs : List Int} (h : IRow B w v zs) (hs : w.heap.size ≤ w'.heap.size) (hb : ∀ b j, B ≤ b → b < w.heap.size → w'.cell? ⟨b, j, none⟩ = w.cell? ⟨b, j, none⟩) : IRow B w' v zs := by
  obtain ⟨A, cap, rfl, hn, hc⟩ := h
  refine ⟨A, cap, rfl, hn, fun i hi => ?_⟩
  obtain ⟨b, off, rfl, hB, hlt, c0⟩ := hc i hi
  exact ⟨b, off, rfl, hB, Nat.lt_of_lt_of_le hlt hs, by rw [hb _ _ hB hlt]; exact c0⟩

theorem IRow.below {B : Nat} {w w' : World} {v : Value} {zs : List Int} (h : IRow B w v zs) (hb : Below w.heap.size w w') : IRow B w' v zs :=
  h.kept hb.size fun _ _ _ hl => hb.cell (by exact hl)

theorem IRow.set {B : Nat} {w : World} {v : Value} {zs : List Int} (h : IRow B w v zs) {q : Addr} (hq : q.block < B) (u : Value) : IRow B (w.setCell q u) v zs :=
  h.kept (by simp) fun b j hB _ => World.cell?_setCell_other _ _ _ _ (by intro e; rw [e] at hq; exact absurd hB (Nat.not_le_of_lt hq))

theorem IRow.lower {B B' : Nat} {w : World} {v : Value} {zs : List Int} (h : IRow B w v zs) (hB : B' ≤ B) : IRow B' w v zs := by
  obtain ⟨A, cap, rfl, hn, hc⟩ := h
  refine ⟨A, cap, rfl, hn, fun i hi => ?_⟩
  obtain ⟨b, off, rfl, h1, h2⟩ := hc i hi
  exact ⟨b, off, rfl, Nat.le_trans hB h1, h2⟩

theorem IRow.form {B : Nat} {w : World} {v : Value} {zs : List Int} (h : IRow B w v zs) : ∃ A cap, v = .slice A zs.length cap := let ⟨A, cap, h, _⟩ := h; ⟨A, cap, h⟩
theorem IRow.len {B : Nat} {w : World} {v : Value} {zs : List Int} (h : IRow B w v zs) : zs.length ≤ 9223372036854775807 := let ⟨_, _, _, hn, _⟩ := h; hn

theorem IRow.at {B : Nat} {w : World} {A : Option Addr} {n cap : Nat} {zs : List Int} (h : IRow B w (.slice A n cap) zs) (k : Nat) (hk : k < zs.length) :
    ∃ b off, A = some ⟨b, off, none⟩ ∧ B ≤ b ∧ b < w.heap.size ∧ w.cell? ⟨b, off + k, none⟩ = some (.int .i64 zs[k]) := by
  obtain ⟨A', cap', he, _, hc⟩ := h
  simp only [Value.slice.injEq] at he
  obtain ⟨rfl, _, rfl⟩ := he
  exact hc k hk

theorem ints_snoc (l : List Int) (x : Int) : ints (l ++ [x]) = ints l ++ [.int .i64 x] := by simp [ints]

/-- of a row of the call's own -/
theorem IRow.of_owns {B : Nat} {w : World} {v : Value} {zs : List Int} (h : w.ownsRow B 2 1 v zs.length (ints zs)) (hn : zs.length ≤ 9223372036854775807) : IRow B w v zs := by
  obtain ⟨h1, h2⟩ := h
  rcases h2 with ⟨rfl, h0⟩ | ⟨g, cap, cur, rfl, hb, hh, hn', hm, hs, ht⟩
  · exact ⟨none, 0, by rw [h0], hn, fun i hi => by omega⟩
  · refine ⟨_, cap, rfl, hn, fun i hi => ⟨g, 0, rfl, hb, (Array.getElem?_eq_some_iff.1 hh).1, ?_⟩⟩
    have hc := World.ownsRow.cells (w := w) (base := B) (e := 2) (size := 1) (n := zs.length) (xs := ints zs) ⟨h1, .inr ⟨g, cap, cur, rfl, hb, hh, hn', hm, hs, ht⟩⟩ (g := g) rfl i (.int .i64 zs[i]) (by simp [ints, hi])
    rwa [Addr.add_lit] at hc

/-- .. that is not nil: where it lies -/
theorem own_form {B : Nat} {w : World} {v : Value} {zs : List Int} (h : w.ownsRow B 2 1 v zs.length (ints zs)) (hn : v ≠ .slice none 0 0) :
    ∃ g cap, v = .slice (some ⟨g, 0, none⟩) zs.length cap ∧ (B ≤ g ∧ g < w.heap.size) ∧ ∀ i (h : i < zs.length), w.cell? ⟨g, i, none⟩ = some (.int .i64 zs[i]) := by
  obtain ⟨h1, h2⟩ := h
  rcases h2 with ⟨rfl, _⟩ | ⟨g, cap, cur, rfl, hb, hh, hn', hm, hs, ht⟩
  · exact absurd rfl hn
  · refine ⟨g, cap, rfl, ⟨hb, (Array.getElem?_eq_some_iff.1 hh).1⟩, fun i hi => ?_⟩
    have hc := World.ownsRow.cells (w := w) (base := B) (e := 2) (size := 1) (n := zs.length) (xs := ints zs) ⟨h1, .inr ⟨g, cap, cur, rfl, hb, hh, hn', hm, hs, ht⟩⟩ (g := g) rfl i (.int .i64 zs[i]) (by simp [ints, hi])
    rwa [Addr.add_lit, Nat.zero_add] at hc

theorem irow_at {w : World} {g : Nat} {zs : List Int} (B cap : Nat) (hB : B ≤ g) (hg : g < w.heap.size) (hc : ∀ i (h : i < zs.length), w.cell? ⟨g, i, none⟩ = some (.int .i64 zs[i])) (hn : zs.length ≤ 9223372036854775807) : IRow B w (.slice (some ⟨g, 0, none⟩) zs.length cap) zs :=
  ⟨_, cap, rfl, hn, fun i hi => ⟨g, 0, rfl, hB, hg, by rw [Nat.zero_add]; exact hc i hi⟩⟩

theorem IRow.cell {B : Nat} {w : World} {g off n cap : Nat} {zs : List Int} (h : IRow B w (.slice (some ⟨g, off, none⟩) n cap) zs) (k : Nat) (hk : k < zs.length) : B ≤ g ∧ g < w.heap.size ∧ w.cell? ⟨g, off + k, none⟩ = some (.int .i64 zs[k]) := by
  obtain ⟨b, off', he, h1, h2, h3⟩ := h.at k hk
  simp only [Option.some.injEq, Addr.mk.injEq, and_true] at he
  obtain ⟨rfl, rfl⟩ := he
  exact ⟨h1, h2, h3⟩

/-- a block that holds them all from its beginning -/
theorem IRow.of_vrow {w : World} {b B : Nat} {zs : List Int} (cap : Nat) (h : VRow w b (ints zs)) (hB : B ≤ b) (hn : zs.length ≤ 9223372036854775807) : IRow B w (.slice (some ⟨b, 0, none⟩) zs.length cap) zs :=
  ⟨_, cap, rfl, hn, fun i hi => ⟨b, 0, rfl, hB, h.1, by have := (h.int i hi).1; simpa [List.getD, hi] using this⟩⟩

theorem Box.set_far {w : World} {B : Nat} {C : Array Value} (h : Box w B C) (q : Addr) (u : Value) (hq : q.block ≠ B) : Box (w.setCell q u) B C :=
  ⟨by simpa using h.1, fun j => by rw [World.cell?_setCell_other _ _ _ _ (by intro e; exact hq (by rw [e]))]; exact h.2 j⟩

theorem Tryz.info64 : (Tryz.prog.info? 2).map (fun i => (i.zero, i.size, i.bytes)) = some (some (.int .i64 0), 1, 8) := by kernel_rfl

theorem IRow.block {B : Nat} {w w' : World} {g off n cap : Nat} {zs : List Int} (h : IRow B w (.slice (some ⟨g, off, none⟩) n cap) zs) (hs : w.heap.size ≤ w'.heap.size) (hb : w'.heap[g]? = w.heap[g]?) : IRow B w' (.slice (some ⟨g, off, none⟩) n cap) zs := by
  obtain ⟨A, cap', he, hn, hc⟩ := h
  refine ⟨A, cap', he, hn, fun i hi => ?_⟩
  simp only [Value.slice.injEq] at he
  obtain ⟨rfl, _, _⟩ := he
  obtain ⟨b, o, hA, h1, h2, h3⟩ := hc i hi
  simp only [Option.some.injEq, Addr.mk.injEq, and_true] at hA
  obtain ⟨rfl, rfl⟩ := hA
  exact ⟨g, off, rfl, h1, Nat.lt_of_lt_of_le h2 hs, by rw [World.cell?_of_block (w := w) (by exact hb)]; exact h3⟩

theorem three_box (w : World) (C D E : Array Value) (t u s : TypeId) : Box (((w.alloc (.cells C t)).alloc (.cells D u)).alloc (.cells E s)) w.heap.size C ∧ VRow (((w.alloc (.cells C t)).alloc (.cells D u)).alloc (.cells E s)) (w.heap.size + 1) D.toList ∧
    Box (((w.alloc (.cells C t)).alloc (.cells D u)).alloc (.cells E s)) (w.heap.size + 1 + 1) E ∧ Below w.heap.size w (((w.alloc (.cells C t)).alloc (.cells D u)).alloc (.cells E s)) := by
  obtain ⟨x0, _, x2⟩ := boxes_new w C D t u
  have h1 : (w.alloc (.cells C t)).heap.size = w.heap.size + 1 := by simp
  have h2 : ((w.alloc (.cells C t)).alloc (.cells D u)).heap.size = w.heap.size + 1 + 1 := by simp
  have y1 := vrow_new (w.alloc (.cells C t)) D u
  have y2 := box_new ((w.alloc (.cells C t)).alloc (.cells D u)) E s
  rw [h1] at y1
  rw [h2] at y2
  have hb : Below ((w.alloc (.cells C t)).alloc (.cells D u)).heap.size ((w.alloc (.cells C t)).alloc (.cells D u)) (((w.alloc (.cells C t)).alloc (.cells D u)).alloc (.cells E s)) := (Below.refl _ _).alloc (Nat.le_refl _) _
  exact ⟨x0.below hb, y1.below hb, y2, x2.trans (hb.mono x2.size)⟩
end Go.Proofs.YtijgonjnmibifaaGreatDoor
