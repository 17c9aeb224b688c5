/- A slice of bytes that came in, as the walks of the draws want it. -/
import Derived.Test.YtljhoplcfoiiiaaDoorSrc
import Derived.OpenShut
namespace Go.Proofs.YtljhoplcfoiiiaaDoor
open Go.RowKit

/-- out of what the frame of a law's proof tells of a slice of bytes -/
theorem row8_in {w : World} {a : Option Addr} {len cap : Nat} {z : List Int}
    (h : (a = none ∧ len = 0 ∧ cap = 0 ∧ z = []) ∨ ∃ x, a = some x ∧ len ≤ cap ∧ cap ≤ maxLen ∧ z.length = cap ∧ (∀ i, i < z.length → w.cell? (x.add i) = some (.int .u8 (z.getD i 0))) ∧ ∀ n ∈ z, (Lit.int .u8 n).wf = true) :
    Row8 w.heap.size w (.slice a len cap) (z.take len) ∧ (z.take len).length = len ∧ (len : Int) ≤ 9223372036854775807 := by
  rcases h with ⟨rfl, rfl, rfl, rfl⟩ | ⟨x, rfl, hl, hm, hz, hcell, hwz⟩
  · exact ⟨.inl ⟨rfl, _, _, rfl⟩, rfl, by omega⟩
  · have hlen : (z.take len).length = len := by rw [List.length_take]; omega
    refine ⟨?_, hlen, by unfold maxLen at hm; omega⟩
    by_cases h0 : len = 0
    · subst h0
      exact .inl ⟨rfl, _, _, rfl⟩
    · obtain ⟨b, off, spot⟩ := x
      have hc := hcell 0 (by omega)
      have hspot : spot = none := by simpa [Addr.add] using World.cell?_spot hc
      subst hspot
      refine .inr ⟨b, off, cap, by rw [hlen], ?_, ?_⟩
      · have h1 : w.cell? ⟨b, off, none⟩ = some (.int .u8 (z.getD 0 0)) := by simpa [Addr.add] using hc
        exact World.block_lt_of_cell? w _ h1
      · intro i hi
        have hi' : i < z.length := by rw [hlen] at hi; omega
        have h1 := hcell i hi'
        have ha : (⟨b, off, none⟩ : Addr).add i = ⟨b, off + i, none⟩ := by simp [Addr.add]
        rw [ha] at h1
        have hw := Go.bounds_u8 (hwz z[i] (List.getElem_mem hi'))
        refine ⟨?_, ?_, ?_⟩
        · rw [h1, List.getElem_take]
          simp [List.getD, List.getElem?_eq_getElem hi']
        · rw [List.getElem_take]; omega
        · rw [List.getElem_take]; omega
end Go.Proofs.YtljhoplcfoiiiaaDoor
