/- Bytes that came in. -/
import Derived.Test.YtljhoplcfoiiiaaDoorArgs
import Derived.Test.YtljhoplcfoiiiaaDoorRow8In
namespace Go.Proofs.YtljhoplcfoiiiaaDoor
open Go.RowKit Go.ChangeShapes Go.WideShapes Go.ChangeAt

def IsBytes (w : World) (v : Value) : Prop := ∃ zs, Row8 w.heap.size w v zs ∧ (zs.length : Int) ≤ 9223372036854775807

set_option maxRecDepth 100000 in
theorem inBytes {H : Type} {enc : TypeId × Value → H} {W : World} {r : Reach} {base : Nat} {v : Value} {d : DataW H} {p : List MemPlace}
    (hv : Value.okWide Tryd.prog W r base 22 v) (h : DataW.Trod enc Tryd.prog W 0 (fun _ => true) true 22 v d p) : IsBytes W v := by
  obtain ⟨a, len, cap, rfl⟩ := okWide_slice Tryd.underlying22 hv
  obtain ⟨fuel, hf⟩ := h
  rcases open_ints Tryd.underlying22 Tryd.underlying5 (by kernel_rfl) hf with ⟨hcs, _⟩ | ⟨x, l, c, zs, hcs, _, hl, hm, hz, _, hcell, hwz⟩
  · simp [Value.cells] at hcs
    obtain ⟨rfl, rfl, rfl⟩ := hcs
    obtain ⟨h1, h2, h3⟩ := row8_in (w := W) (a := none) (len := 0) (cap := 0) (z := []) (.inl ⟨rfl, rfl, rfl, rfl⟩)
    exact ⟨_, h1, by simp⟩
  · simp [Value.cells] at hcs
    obtain ⟨rfl, rfl, rfl⟩ := hcs
    obtain ⟨h1, h2, h3⟩ := row8_in (w := W) (.inr ⟨_, rfl, hl, hm, by simpa using hz, hcell, hwz⟩)
    exact ⟨_, h1, by rw [h2]; exact h3⟩
end Go.Proofs.YtljhoplcfoiiiaaDoor
