/- A slice of numbers that lies ahead of a block; marks written into an answer of the call's own. -/
import Derived.Test.YtljhoplcfoiiiaaDoorHeiI
import Derived.Test.YtljhoplcfoiiiaaDoorMarks
namespace Go.Proofs.YtljhoplcfoiiiaaDoor
open Go.RowKit

/-- a slice of numbers that lies ahead of block U -/
def URow (U : Nat) (w : World) (v : Value) (zs : List Int) : Prop :=
  ∃ A cap, v = .slice A zs.length cap ∧ zs.length ≤ 1048576 ∧ ∀ i (h : i < zs.length), ∃ b off, A = some ⟨b, off, none⟩ ∧ b < U ∧ w.cell? ⟨b, off + i, none⟩ = some (.int .i64 zs[i])

theorem OwnV.urow {B : Nat} {w : World} {v : Value} {zs : List Int} (h : OwnV B w v zs) : URow w.heap.size w v zs := by
  obtain ⟨A, cap, h1, h2, h3⟩ := h
  refine ⟨A, cap, h1, h2, fun i hi => ?_⟩
  rcases h3 with rfl | ⟨b, e1, e2, e3⟩
  · simp at hi
  · refine ⟨b, 0, e1, e3.1, ?_⟩
    have := (e3.int i hi).1
    rw [Nat.zero_add]
    simpa [List.getD, hi] using this

theorem URow.kept {U : Nat} {w w' : World} {v : Value} {zs : List Int} (h : URow U w v zs) (hb : ∀ b, b < U → w'.heap[b]? = w.heap[b]?) : URow U w' v zs := by
  obtain ⟨A, cap, h1, h2, h3⟩ := h
  refine ⟨A, cap, h1, h2, fun i hi => ?_⟩
  obtain ⟨b, off, e1, e2, e3⟩ := h3 i hi
  exact ⟨b, off, e1, e2, by rw [World.cell?_of_block (w := w) (by exact hb b e2)]; exact e3⟩

theorem URow.below {U B : Nat} {w w' : World} {v : Value} {zs : List Int} (h : URow U w v zs) (hb : Below B w w') (hU : U ≤ B) : URow U w' v zs := h.kept fun b hl => hb.block b (by omega)

theorem URow.irow {U : Nat} {w : World} {v : Value} {zs : List Int} (h : URow U w v zs) (hU : U ≤ w.heap.size) : IRow 0 w v zs := by
  obtain ⟨A, cap, h1, h2, h3⟩ := h
  refine ⟨A, cap, h1, by omega, fun i hi => ?_⟩
  obtain ⟨b, off, e1, e2, e3⟩ := h3 i hi
  exact ⟨b, off, e1, Nat.zero_le _, by omega, e3⟩

theorem OwnV.irow {B : Nat} {w : World} {v : Value} {zs : List Int} (h : OwnV B w v zs) : IRow 0 w v zs := h.urow.irow (Nat.le_refl _)

theorem OwnV.kept {B : Nat} {w w' : World} {v : Value} {zs : List Int} (h : OwnV B w v zs) (hs : w.heap.size ≤ w'.heap.size) (hb : ∀ b, B ≤ b → b < w.heap.size → w'.heap[b]? = w.heap[b]?) : OwnV B w' v zs := by
  obtain ⟨A, cap, h1, h2, h3⟩ := h
  refine ⟨A, cap, h1, h2, h3.imp id ?_⟩
  rintro ⟨b, e1, e2, e3⟩
  exact ⟨b, e1, e2, Nat.lt_of_lt_of_le e3.1 hs, fun j hj => by rw [World.cell?_of_block (w := w) (hb b e2 e3.1), World.frozen?_of_block (w := w) (hb b e2 e3.1)]; exact e3.2 j hj⟩

theorem markOwn {B : Nat} (v : Value) (zs : List Int) (k : Nat) (w : World) (hv : OwnV B w v zs) (hB : B ≤ w.heap.size) (hk : k ≤ 1048576) :
    Calls Tryd.prog 18 #[v, .int .i64 k] w fun e w' => e = .returned (.int .i64 (k + zs.length : Nat)) ∧ OwnV B w' v (marks zs.length k) ∧ Below B w w' := by
  obtain ⟨A, cap, rfl, hl, h3⟩ := hv
  rcases h3 with rfl | ⟨b, rfl, hBb, hV⟩
  · go_enter Tryd.func18, Tryd.ntmps18
    go_wp2
    go_loopg [1, 5] 0 (fun _ y i wr => y = .int .i64 k ∧ i = .int .i64 0 ∧ wr = w)
    case atStart => exact ⟨rfl, rfl, rfl⟩
    case round =>
      obtain ⟨rfl, rfl, hw⟩ := hrel
      subst hw
      go_wp2_with fail
      go_ret
      exact ⟨rfl, OwnV.nil _ _ _ _, Below.refl _ _⟩
  · refine (markInts b zs.length cap k zs w rfl hl hk hV).mono ?_
    rintro e w' ⟨rfl, hM, hg⟩
    exact ⟨rfl, ⟨_, cap, by rw [marks_length], by rw [marks_length]; exact hl, .inr ⟨b, rfl, hBb, hM⟩⟩, (Below.refl _ _).grown hg hB (fun j hj => by cases hj; exact hBb)⟩
end Go.Proofs.YtljhoplcfoiiiaaDoor
