/- laws.toState and what it calls: what it makes reads as what it was given, in memory of its own. -/
import Derived.Test.YtijgonjnmibifaaDoorSt
namespace Go.Proofs.YtijgonjnmibifaaDoor
open Go.RowKit

/-- three blocks that were just laid -/
theorem three_rows (w : World) (C D E : Array Value) (t u s : TypeId) : VRow (((w.alloc (.cells C t)).alloc (.cells D u)).alloc (.cells E s)) w.heap.size C.toList ∧ VRow (((w.alloc (.cells C t)).alloc (.cells D u)).alloc (.cells E s)) (w.heap.size + 1) D.toList ∧
    VRow (((w.alloc (.cells C t)).alloc (.cells D u)).alloc (.cells E s)) (w.heap.size + 1 + 1) E.toList ∧ Below w.heap.size w (((w.alloc (.cells C t)).alloc (.cells D u)).alloc (.cells E s)) := by
  have h1 : (w.alloc (.cells C t)).heap.size = w.heap.size + 1 := by simp
  have h2 : ((w.alloc (.cells C t)).alloc (.cells D u)).heap.size = w.heap.size + 1 + 1 := by simp
  have y0 := vrow_new w C t
  have y1 := vrow_new (w.alloc (.cells C t)) D u
  have y2 := vrow_new ((w.alloc (.cells C t)).alloc (.cells D u)) E s
  rw [h1] at y1
  rw [h2] at y2
  have hb1 : Below (w.alloc (.cells C t)).heap.size (w.alloc (.cells C t)) ((w.alloc (.cells C t)).alloc (.cells D u)) := (Below.refl _ _).alloc (Nat.le_refl _) _
  have hb2 : Below ((w.alloc (.cells C t)).alloc (.cells D u)).heap.size ((w.alloc (.cells C t)).alloc (.cells D u)) (((w.alloc (.cells C t)).alloc (.cells D u)).alloc (.cells E s)) := (Below.refl _ _).alloc (Nat.le_refl _) _
  exact ⟨(y0.below hb1).below hb2, y1.below hb2, y2, (((Below.refl _ _).alloc (Nat.le_refl _) _).alloc (by simp) _).alloc (by simp; omega) _⟩

theorem VRow.c {w : World} {b : Nat} {vs : List Value} (h : VRow w b vs) (j : Nat) (hj : j < vs.length) : w.cell? ⟨b, j, none⟩ = some vs[j] := (h.2 j hj).1
theorem VRow.f {w : World} {b : Nat} {vs : List Value} (h : VRow w b vs) (j : Nat) (hj : j < vs.length) : w.frozen? ⟨b, j, none⟩ = false := (h.2 j hj).2

end Go.Proofs.YtijgonjnmibifaaDoor
