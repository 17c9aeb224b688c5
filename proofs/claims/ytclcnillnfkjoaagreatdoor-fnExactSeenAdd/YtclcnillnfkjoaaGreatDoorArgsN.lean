/- What a law's argument is told as, and that it is so of each that came in: a profile. -/
import Derived.Test.YtclcnillnfkjoaaGreatDoorArgs
import Derived.Test.YtclcnillnfkjoaaGreatDoorSeen
namespace Go.Proofs.YtclcnillnfkjoaaGreatDoor
open Go.RowKit Go.ChangeShapes Go.WideShapes Go.ChangeAt Go.Deep
set_option maxRecDepth 100000

def SnM.ok (s : SnM) : Prop := I64 s.func ∧ I64 s.pc ∧ I64 s.went ∧ I64 s.past
def IsSeen (w : World) (v : Value) : Prop := ∃ l, SnRow 0 w v l ∧ ∀ s ∈ l, s.ok

section
variable {H : Type} {enc : TypeId × Value → H} {W : World} {r : Reach} {base : Nat} {v : Value} {d : DataW H} {p : List MemPlace}

theorem seen_of {fuel : Nat} {cs : List Value} {x : DataW H × List MemPlace} (h : DataW.trod enc Tryz.prog W 0 (fun _ => true) true fuel 86 cs = some x) : ∃ x y u t, cs = [.int .i64 x, .int .i64 y, .int .i64 u, .int .i64 t] ∧ SnM.ok ⟨x, y, u, t⟩ := by
  obtain ⟨xs, n, _, _, hlen, hxl, hfd⟩ := DataW.trod_struct Tryz.underlying86 h
  rw [show Tryz.prog.cellsOf 86 = 4 by kernel_rfl] at hlen
  have f0 := hfd 0 _ rfl
  have f1 := hfd 1 _ rfl
  have f2 := hfd 2 _ rfl
  have f3 := hfd 3 _ rfl
  match cs, hlen, xs, hxl with
  | [v0, v1, v2, v3], _, [y0, y1, y2, y3], _ =>
    obtain ⟨x, rfl, hx⟩ := int_of (show DataW.trod enc Tryz.prog W 0 (fun _ => true) true n 2 [v0] = some y0 from f0)
    obtain ⟨y, rfl, hy⟩ := int_of (show DataW.trod enc Tryz.prog W 0 (fun _ => true) true n 2 [v1] = some y1 from f1)
    obtain ⟨l, rfl, hl⟩ := int_of (show DataW.trod enc Tryz.prog W 0 (fun _ => true) true n 2 [v2] = some y2 from f2)
    obtain ⟨k, rfl, hk⟩ := int_of (show DataW.trod enc Tryz.prog W 0 (fun _ => true) true n 2 [v3] = some y3 from f3)
    exact ⟨x, y, l, k, rfl, hx, hy, hl, hk⟩

theorem snRow_of {fuel : Nat} {x : DataW H × List MemPlace} (h : DataW.trod enc Tryz.prog W 0 (fun _ => true) true fuel 37 [v] = some x) : ∃ p, SnRow 0 W v p ∧ ∀ f ∈ p, f.ok := by
  rcases open_slice Tryz.underlying37 h with ⟨hc, _⟩ | ⟨a, len, cap, m, n, D, Pl, hc, _, hl, hm, hmm, _, hx⟩
  · simp only [List.cons.injEq, and_true] at hc
    subst hc
    exact ⟨[], ⟨none, 0, rfl, by simp, fun i hi => absurd hi (Nat.not_lt_zero _)⟩, fun i hi => by simp at hi⟩
  · simp only [List.cons.injEq, and_true] at hc
    subst hc
    simp only [if_true] at hmm
    subst hmm
    have hC : Tryz.prog.cellsOf 86 = 4 := by kernel_rfl
    rw [hC] at hx
    obtain ⟨q, hq⟩ := choose_lt (α := SnM) (p := fun i q => W.cell? (a.add (i * 4)) = some (.int .i64 q.func) ∧ W.cell? (a.add (i * 4 + 1)) = some (.int .i64 q.pc) ∧ W.cell? (a.add (i * 4 + 2)) = some (.int .i64 q.went) ∧ W.cell? (a.add (i * 4 + 3)) = some (.int .i64 q.past) ∧ q.ok) (fun i hi => by
      obtain ⟨cs, h1, h2⟩ := hx i hi
      obtain ⟨x, y, u, t, rfl, hok⟩ := seen_of h2
      obtain ⟨_, _, hcell⟩ := World.cells?_some h1
      have e0 := hcell 0 (by omega)
      have e1 := hcell 1 (by omega)
      have e2 := hcell 2 (by omega)
      have e3 := hcell 3 (by omega)
      rw [add_add] at e0 e1 e2 e3
      exact ⟨⟨x, y, u, t⟩, by simpa using e0, by simpa using e1, by simpa using e2, by simpa using e3, hok⟩)
    refine ⟨(List.range len).map fun i => q i, ⟨some a, m, by simp, by simp; unfold maxLen at hm; omega, fun i hi => ?_⟩, fun i hi => ?_⟩
    · have hi' : i < len := by simpa using hi
      obtain ⟨c0, _⟩ := hq 0 (by omega)
      obtain ⟨b, off, rfl, hlt⟩ := plain_addr (by simpa using c0)
      obtain ⟨e0, e1, e2, e3, _⟩ := hq i (by omega)
      rw [plain_add] at e0 e1 e2 e3
      exact ⟨b, off, rfl, Nat.zero_le _, hlt, by simpa using e0, by simpa [Nat.add_assoc] using e1, by simpa [Nat.add_assoc] using e2, by simpa [Nat.add_assoc] using e3⟩
    · obtain ⟨j, hj, rfl⟩ := List.mem_map.1 hi
      exact (hq j (by have := List.mem_range.1 hj; omega)).2.2.2.2

theorem inSeen (hv : Value.okWide Tryz.prog W r base 37 v) (h : DataW.Trod enc Tryz.prog W 0 (fun _ => true) true 37 v d p) : IsSeen W v := by
  obtain ⟨a, len, cap, rfl⟩ := okWide_slice Tryz.underlying37 hv
  obtain ⟨fuel, hf⟩ := h
  obtain ⟨c, h1, h2⟩ := snRow_of (show DataW.trod enc Tryz.prog W 0 (fun _ => true) true fuel 37 [.slice a len cap] = some (d, p) from hf)
  exact ⟨c, h1, h2⟩
end
end Go.Proofs.YtclcnillnfkjoaaGreatDoor
