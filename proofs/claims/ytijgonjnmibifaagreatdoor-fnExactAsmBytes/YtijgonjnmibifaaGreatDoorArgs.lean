/- What a law's argument is told as, and that it is so of each that came in: a number, an instruction, a function, a program. -/
import Derived.Test.YtijgonjnmibifaaGreatDoorPrg
import Derived.OpenShut
import Derived.ProofKit
import Derived.ShutString
import Derived.Deep.SlicePairs
import Derived.Lib.SmallJoins
namespace Go.Proofs.YtijgonjnmibifaaGreatDoor
open Go.RowKit Go.ChangeShapes Go.WideShapes Go.ChangeAt Go.Deep
set_option maxRecDepth 100000

/-- a number of 64 bits -/
def I64 (x : Int) : Prop := -9223372036854775808 ≤ x ∧ x ≤ 9223372036854775807
/-- all numbers of a function -/
def FnM.ok (f : FnM) : Prop := I64 f.args ∧ I64 f.locals ∧ ∀ i ∈ f.code, I64 i.1 ∧ I64 i.2

def IsI64 (_ : World) (v : Value) : Prop := ∃ x, v = .int .i64 x ∧ I64 x
def IsIns (_ : World) (v : Value) : Prop := ∃ x y, v = .agg #[.int .i64 x, .int .i64 y] ∧ I64 x ∧ I64 y
def IsFunc (w : World) (v : Value) : Prop := ∃ x y u c, v = .agg #[.int .i64 x, .int .i64 y, u] ∧ InsRow 0 w u c ∧ FnM.ok ⟨x, y, c⟩
def IsProgram (w : World) (v : Value) : Prop := ∃ u p, v = .agg #[u] ∧ FnRow 0 w u p ∧ ∀ f ∈ p, f.ok

section
variable {H : Type} {enc : TypeId × Value → H} {W : World} {r : Reach} {base : Nat} {v : Value} {d : DataW H} {p : List MemPlace}

theorem inI64 (hv : Value.okWide Tryz.prog W r base 2 v) (h : DataW.Trod enc Tryz.prog W 0 (fun _ => true) true 2 v d p) : IsI64 W v := by
  obtain ⟨x, rfl, _, _, hw⟩ := open_int Tryz.underlying2 hv h
  exact ⟨x, rfl, Go.bounds_i64 hw⟩

theorem int_of {fuel : Nat} {x : DataW H × List MemPlace} (h : DataW.trod enc Tryz.prog W 0 (fun _ => true) true fuel 2 [v] = some x) : ∃ n, v = .int .i64 n ∧ I64 n := by
  obtain ⟨n, hc, _, hw⟩ := DataW.trod_int Tryz.underlying2 h
  simp only [List.cons.injEq, and_true] at hc
  exact ⟨n, hc, Go.bounds_i64 hw⟩

theorem inIns (hv : Value.okWide Tryz.prog W r base 186 v) (h : DataW.Trod enc Tryz.prog W 0 (fun _ => true) true 186 v d p) : IsIns W v := by
  obtain ⟨v0, v1, y0, y1, n, rfl, _, _, h0, h1⟩ := Go.Joins.open_agg2 Tryz.underlying186 (by kernel_rfl) (by kernel_rfl) hv h
  obtain ⟨x, rfl, hx⟩ := int_of h0
  obtain ⟨y, rfl, hy⟩ := int_of h1
  exact ⟨x, y, rfl, hx, hy⟩

/-- an address of which a cell is told lies at no spot -/
theorem plain_addr {a : Addr} {u : Value} (h : W.cell? (a.add 0) = some u) : ∃ b off, a = ⟨b, off, none⟩ ∧ b < W.heap.size := by
  obtain ⟨b, off, spot⟩ := a
  have hs : spot = none := by simpa [Addr.add] using World.cell?_spot h
  subst hs
  exact ⟨b, off, rfl, World.block_lt_of_cell? W _ (by simpa [Addr.add] using h)⟩

theorem plain_add (b off i : Nat) : (⟨b, off, none⟩ : Addr).add i = ⟨b, off + i, none⟩ := by simp [Addr.add]

theorem insRow_of {fuel : Nat} {x : DataW H × List MemPlace} (h : DataW.trod enc Tryz.prog W 0 (fun _ => true) true fuel 93 [v] = some x) : ∃ c, InsRow 0 W v c ∧ ∀ i ∈ c, I64 i.1 ∧ I64 i.2 := by
  rcases open_slice_pairs Tryz.underlying93 Tryz.underlying186 (by kernel_rfl) rfl rfl (by kernel_rfl) (by kernel_rfl) h with ⟨hc, _⟩ | ⟨a, len, cap, m, n, V0, V1, D0, D1, P0, P1, hc, _, hl, hm, hmm, _, hx⟩
  · simp only [List.cons.injEq, and_true] at hc
    subst hc
    exact ⟨[], ⟨none, 0, rfl, by simp, fun i hi => absurd hi (Nat.not_lt_zero _)⟩, fun i hi => by simp at hi⟩
  · simp only [List.cons.injEq, and_true] at hc
    subst hc
    simp only [if_true] at hmm
    subst hmm
    obtain ⟨q, hq⟩ := choose_lt (α := Int × Int) (p := fun i q => V0 i = .int .i64 q.1 ∧ V1 i = .int .i64 q.2 ∧ I64 q.1 ∧ I64 q.2) (fun i hi => by
      obtain ⟨_, _, t0, t1⟩ := hx i hi
      obtain ⟨y, h0, hy⟩ := int_of t0
      obtain ⟨z, h1, hz⟩ := int_of t1
      exact ⟨(y, z), h0, h1, hy, hz⟩)
    refine ⟨(List.range len).map q, ⟨some a, m, by simp, by simp; unfold maxLen at hm; omega, fun i hi => ?_⟩, fun i hi => ?_⟩
    · have hi' : i < len := by simpa using hi
      obtain ⟨c0, _, _, _⟩ := hx 0 (by omega)
      obtain ⟨b, off, rfl, hlt⟩ := plain_addr (by simpa using c0)
      obtain ⟨e0, e1, _, _⟩ := hx i (by omega)
      obtain ⟨q0, q1, _, _⟩ := hq i (by omega)
      rw [plain_add] at e0 e1
      exact ⟨b, off, rfl, Nat.zero_le _, hlt, by simpa [q0] using e0, by simpa [q1, Nat.add_assoc] using e1⟩
    · obtain ⟨j, hj, rfl⟩ := List.mem_map.1 hi
      obtain ⟨_, _, q0, q1⟩ := hq j (by have := List.mem_range.1 hj; omega)
      exact ⟨q0, q1⟩

theorem fn_of {fuel : Nat} {cs : List Value} {x : DataW H × List MemPlace} (h : DataW.trod enc Tryz.prog W 0 (fun _ => true) true fuel 95 cs = some x) : ∃ x y u c, cs = [.int .i64 x, .int .i64 y, u] ∧ InsRow 0 W u c ∧ FnM.ok ⟨x, y, c⟩ := by
  obtain ⟨y0, y1, y2, n, _, hlen, h0, h1, h2⟩ := trod_struct3 Tryz.underlying95 h
  rw [show Tryz.prog.cellsOf 95 = 3 by kernel_rfl] at hlen
  match cs, hlen with
  | [v0, v1, v2], _ =>
    obtain ⟨x, rfl, hx⟩ := int_of (show DataW.trod enc Tryz.prog W 0 (fun _ => true) true n 2 [v0] = some y0 from h0)
    obtain ⟨y, rfl, hy⟩ := int_of (show DataW.trod enc Tryz.prog W 0 (fun _ => true) true n 2 [v1] = some y1 from h1)
    obtain ⟨c, hc, hok⟩ := insRow_of (show DataW.trod enc Tryz.prog W 0 (fun _ => true) true n 93 [v2] = some y2 from h2)
    exact ⟨x, y, v2, c, rfl, hc, hx, hy, hok⟩

theorem inFunc (hv : Value.okWide Tryz.prog W r base 95 v) (h : DataW.Trod enc Tryz.prog W 0 (fun _ => true) true 95 v d p) : IsFunc W v := by
  obtain ⟨cs, rfl, hsz⟩ := okWide_struct Tryz.underlying95 hv
  obtain ⟨fuel, hf⟩ := h
  obtain ⟨x, y, u, c, hc, hr, hok⟩ := fn_of hf
  refine ⟨x, y, u, c, ?_, hr, hok⟩
  obtain ⟨l⟩ := cs
  simp [Value.cells] at hc
  subst hc
  rfl

theorem fnRow_of {fuel : Nat} {x : DataW H × List MemPlace} (h : DataW.trod enc Tryz.prog W 0 (fun _ => true) true fuel 22 [v] = some x) : ∃ p, FnRow 0 W v p ∧ ∀ f ∈ p, f.ok := by
  rcases open_slice Tryz.underlying22 h with ⟨hc, _⟩ | ⟨a, len, cap, m, n, D, Pl, hc, _, hl, hm, hmm, _, hx⟩
  · simp only [List.cons.injEq, and_true] at hc
    subst hc
    exact ⟨[], ⟨none, 0, rfl, by simp, fun i hi => absurd hi (Nat.not_lt_zero _)⟩, fun i hi => by simp at hi⟩
  · simp only [List.cons.injEq, and_true] at hc
    subst hc
    simp only [if_true] at hmm
    subst hmm
    have hC : Tryz.prog.cellsOf 95 = 3 := by kernel_rfl
    rw [hC] at hx
    obtain ⟨q, hq⟩ := choose_lt (α := Int × Int × Value × List (Int × Int)) (p := fun i q => W.cell? (a.add (i * 3)) = some (.int .i64 q.1) ∧ W.cell? (a.add (i * 3 + 1)) = some (.int .i64 q.2.1) ∧ W.cell? (a.add (i * 3 + 2)) = some q.2.2.1 ∧ InsRow 0 W q.2.2.1 q.2.2.2 ∧ FnM.ok ⟨q.1, q.2.1, q.2.2.2⟩) (fun i hi => by
      obtain ⟨cs, h1, h2⟩ := hx i hi
      obtain ⟨x, y, u, c, rfl, hr, hok⟩ := fn_of h2
      obtain ⟨_, _, hcell⟩ := World.cells?_some h1
      have e0 := hcell 0 (by omega)
      have e1 := hcell 1 (by omega)
      have e2 := hcell 2 (by omega)
      rw [add_add] at e0 e1 e2
      exact ⟨(x, y, u, c), by simpa using e0, by simpa using e1, by simpa using e2, hr, hok⟩)
    refine ⟨(List.range len).map fun i => ⟨(q i).1, (q i).2.1, (q i).2.2.2⟩, ⟨some a, m, by simp, by simp; unfold maxLen at hm; omega, fun i hi => ?_⟩, fun i hi => ?_⟩
    · have hi' : i < len := by simpa using hi
      obtain ⟨c0, _, _, _⟩ := hq 0 (by omega)
      obtain ⟨b, off, rfl, hlt⟩ := plain_addr (by simpa using c0)
      obtain ⟨e0, e1, e2, hr, _⟩ := hq i (by omega)
      rw [plain_add] at e0 e1 e2
      exact ⟨b, off, (q i).2.2.1, rfl, Nat.zero_le _, hlt, by simpa using e0, by simpa [Nat.add_assoc] using e1, by simpa [Nat.add_assoc] using e2, by simpa using hr⟩
    · obtain ⟨j, hj, rfl⟩ := List.mem_map.1 hi
      exact (hq j (by have := List.mem_range.1 hj; omega)).2.2.2.2

theorem inProgram (hv : Value.okWide Tryz.prog W r base 24 v) (h : DataW.Trod enc Tryz.prog W 0 (fun _ => true) true 24 v d p) : IsProgram W v := by
  obtain ⟨cs, rfl, hsz⟩ := okWide_struct Tryz.underlying24 hv
  rw [show Tryz.prog.cellsOf 24 = 1 by kernel_rfl] at hsz
  obtain ⟨fuel, hf⟩ := h
  obtain ⟨xs, n, _, _, _, hxl, hfd⟩ := DataW.trod_struct Tryz.underlying24 hf
  have f0 := hfd 0 _ rfl
  obtain ⟨l⟩ := cs
  match l, hsz, xs, hxl with
  | [u], _, [y0], _ =>
    obtain ⟨q, hq, hok⟩ := fnRow_of (show DataW.trod enc Tryz.prog W 0 (fun _ => true) true n 22 [u] = some y0 from f0)
    exact ⟨u, q, rfl, hq, hok⟩
end
end Go.Proofs.YtijgonjnmibifaaGreatDoor
