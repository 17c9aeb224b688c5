/- A block of the call's own that holds a row of values, written and read cell by cell. -/
import Derived.Test.YtijgonjnmibifaaGreatDoorPrg
namespace Go.Proofs.YtijgonjnmibifaaGreatDoor
open Go.RowKit

/-- block b holds these values, and may be written -/
def VRow (w : World) (b : Nat) (vs : List Value) : Prop := b < w.heap.size ∧ ∀ j (h : j < vs.length), w.cell? ⟨b, j, none⟩ = some vs[j] ∧ w.frozen? ⟨b, j, none⟩ = false

theorem VRow.below {w w' : World} {b : Nat} {vs : List Value} (h : VRow w b vs) (hb : Below w.heap.size w w') : VRow w' b vs :=
  ⟨Nat.lt_of_lt_of_le h.1 hb.size, fun j hj => by rw [hb.cell (by exact h.1), hb.frozen (by exact h.1)]; exact h.2 j hj⟩

theorem VRow.set_at {w : World} {b : Nat} {vs : List Value} (h : VRow w b vs) (k : Nat) (u : Value) (hk : k < vs.length) : VRow (w.setCell ⟨b, k, none⟩ u) b (vs.set k u) := by
  refine ⟨by simpa using h.1, fun j hj => ?_⟩
  have hj' : j < vs.length := by simpa using hj
  refine ⟨?_, by simpa using (h.2 j hj').2⟩
  by_cases he : k = j
  · subst he
    rw [World.cell?_setCell_same _ _ _ (h.2 k hk).1]
    simp
  · rw [cell_set_far _ _ _ _ _ he, (h.2 j hj').1]
    simp [he]

theorem VRow.set_far {w : World} {b : Nat} {vs : List Value} (h : VRow w b vs) (q : Addr) (u : Value) (hq : q.block ≠ b) : VRow (w.setCell q u) b vs := by
  refine ⟨by simpa using h.1, fun j hj => ⟨?_, by simpa using (h.2 j hj).2⟩⟩
  rw [World.cell?_setCell_other _ _ _ _ (by intro e; exact hq (by rw [e]))]
  exact (h.2 j hj).1

theorem vrow_new (w : World) (C : Array Value) (t : TypeId) : VRow (w.alloc (.cells C t)) w.heap.size C.toList :=
  ⟨by simp, fun j hj => ⟨by rw [World.cell?_alloc_mark]; simp at hj; simp [hj], by simp⟩⟩

/-- a row of numbers, of truths -/
def ints (zs : List Int) : List Value := zs.map (Value.int .i64)
def truths (bs : List Bool) : List Value := bs.map Value.bool

theorem ints_set (zs : List Int) (k : Nat) (x : Int) : (ints zs).set k (.int .i64 x) = ints (zs.set k x) := by simp [ints, List.map_set]
theorem truths_set (bs : List Bool) (k : Nat) (x : Bool) : (truths bs).set k (.bool x) = truths (bs.set k x) := by simp [truths, List.map_set]
theorem ints_length (zs : List Int) : (ints zs).length = zs.length := by simp [ints]
theorem truths_length (bs : List Bool) : (truths bs).length = bs.length := by simp [truths]

theorem VRow.int {w : World} {b : Nat} {zs : List Int} (h : VRow w b (ints zs)) (k : Nat) (hk : k < zs.length) : w.cell? ⟨b, k, none⟩ = some (.int .i64 (zs.getD k 0)) ∧ w.frozen? ⟨b, k, none⟩ = false := by
  have := h.2 k (by simpa [ints] using hk)
  simpa [ints, List.getD, hk] using this
theorem VRow.truth {w : World} {b : Nat} {bs : List Bool} (h : VRow w b (truths bs)) (k : Nat) (hk : k < bs.length) : w.cell? ⟨b, k, none⟩ = some (.bool (bs.getD k false)) ∧ w.frozen? ⟨b, k, none⟩ = false := by
  have := h.2 k (by simpa [truths] using hk)
  simpa [truths, List.getD, hk] using this
end Go.Proofs.YtijgonjnmibifaaGreatDoor
