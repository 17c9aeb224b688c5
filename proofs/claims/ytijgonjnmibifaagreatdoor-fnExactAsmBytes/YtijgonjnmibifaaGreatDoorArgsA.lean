/- What a law's argument is told as, and that it is so of each that came in: code of registers. -/
import Derived.Test.YtijgonjnmibifaaGreatDoorArgs
import Derived.Test.YtijgonjnmibifaaGreatDoorAm
namespace Go.Proofs.YtijgonjnmibifaaGreatDoor
open Go.RowKit Go.ChangeShapes Go.WideShapes Go.ChangeAt Go.Deep
set_option maxRecDepth 100000

def I64v (l : List (Int × Int)) : Prop := ∀ v ∈ l, I64 v.1 ∧ I64 v.2
def MvM.ok (m : MvM) : Prop := I64 m.to ∧ I64 m.kind ∧ I64 m.n
def AiM.ok (i : AiM) : Prop := (∀ m ∈ i.pre, m.ok) ∧ I64 i.op ∧ I64 i.to ∧ I64v i.l ∧ I64 i.t
def AsM.ok (a : AsM) : Prop := I64 a.func ∧ (∀ i ∈ a.code, i.ok) ∧ ∀ m ∈ a.maps, I64v m

def IsAsm (w : World) (v : Value) : Prop := ∃ x y a, v = asV x y a ∧ AsRow 0 w x y a ∧ a.ok

section
variable {H : Type} {enc : TypeId × Value → H} {W : World} {r : Reach} {base : Nat} {v : Value} {d : DataW H} {p : List MemPlace}

theorem valRow_of {fuel : Nat} {x : DataW H × List MemPlace} (h : DataW.trod enc Tryz.prog W 0 (fun _ => true) true fuel 98 [v] = some x) : ∃ c, InsRow 0 W v c ∧ ∀ i ∈ c, I64 i.1 ∧ I64 i.2 := by
  rcases open_slice_pairs Tryz.underlying98 Tryz.underlying153 (by kernel_rfl) rfl rfl (by kernel_rfl) (by kernel_rfl) h with ⟨hc, _⟩ | ⟨a, len, cap, m, n, V0, V1, D0, D1, P0, P1, hc, _, hl, hm, hmm, _, hx⟩
  · simp only [List.cons.injEq, and_true] at hc
    subst hc
    exact ⟨[], ⟨none, 0, rfl, by simp, fun i hi => absurd hi (Nat.not_lt_zero _)⟩, fun i hi => by simp at hi⟩
  · simp only [List.cons.injEq, and_true] at hc
    subst hc
    simp only [if_true] at hmm
    subst hmm
    obtain ⟨q, hq⟩ := choose_lt (α := Int × Int) (p := fun i q => V0 i = .int .i64 q.1 ∧ V1 i = .int .i64 q.2 ∧ I64 q.1 ∧ I64 q.2) (fun i hi => by
      obtain ⟨_, _, t0, t1⟩ := hx i hi
      obtain ⟨y, h0, hy⟩ := int_of t0
      obtain ⟨z, h1, hz⟩ := int_of t1
      exact ⟨(y, z), h0, h1, hy, hz⟩)
    refine ⟨(List.range len).map q, ⟨some a, m, by simp, by simp; unfold maxLen at hm; omega, fun i hi => ?_⟩, fun i hi => ?_⟩
    · have hi' : i < len := by simpa using hi
      obtain ⟨c0, _, _, _⟩ := hx 0 (by omega)
      obtain ⟨b, off, rfl, hlt⟩ := plain_addr (by simpa using c0)
      obtain ⟨e0, e1, _, _⟩ := hx i (by omega)
      obtain ⟨q0, q1, _, _⟩ := hq i (by omega)
      rw [plain_add] at e0 e1
      exact ⟨b, off, rfl, Nat.zero_le _, hlt, by simpa [q0] using e0, by simpa [q1, Nat.add_assoc] using e1⟩
    · obtain ⟨j, hj, rfl⟩ := List.mem_map.1 hi
      obtain ⟨_, _, q0, q1⟩ := hq j (by have := List.mem_range.1 hj; omega)
      exact ⟨q0, q1⟩

theorem mov_of {fuel : Nat} {cs : List Value} {x : DataW H × List MemPlace} (h : DataW.trod enc Tryz.prog W 0 (fun _ => true) true fuel 189 cs = some x) : ∃ x y u, cs = [.int .i64 x, .int .i64 y, .int .i64 u] ∧ MvM.ok ⟨x, y, u⟩ := by
  obtain ⟨xs, n, _, _, hlen, hxl, hfd⟩ := DataW.trod_struct Tryz.underlying189 h
  rw [show Tryz.prog.cellsOf 189 = 3 by kernel_rfl] at hlen
  have f0 := hfd 0 _ rfl
  have f1 := hfd 1 _ rfl
  match cs, hlen, xs, hxl with
  | [v0, v1, v2], _, [y0, y1], _ =>
    obtain ⟨x, rfl, hx⟩ := int_of (show DataW.trod enc Tryz.prog W 0 (fun _ => true) true n 2 [v0] = some y0 from f0)
    obtain ⟨zs, k, _, _, _, hzl, hgd⟩ := DataW.trod_struct Tryz.underlying153 (show DataW.trod enc Tryz.prog W 0 (fun _ => true) true n 153 [v1, v2] = some y1 from f1)
    have g0 := hgd 0 _ rfl
    have g1 := hgd 1 _ rfl
    match zs, hzl with
    | [z0, z1], _ =>
      obtain ⟨y, rfl, hy⟩ := int_of (show DataW.trod enc Tryz.prog W 0 (fun _ => true) true k 2 [v1] = some z0 from g0)
      obtain ⟨u, rfl, hu⟩ := int_of (show DataW.trod enc Tryz.prog W 0 (fun _ => true) true k 2 [v2] = some z1 from g1)
      exact ⟨x, y, u, rfl, hx, hy, hu⟩

theorem movRow_of {fuel : Nat} {x : DataW H × List MemPlace} (h : DataW.trod enc Tryz.prog W 0 (fun _ => true) true fuel 97 [v] = some x) : ∃ p, MvRow 0 W v p ∧ ∀ f ∈ p, f.ok := by
  rcases open_slice Tryz.underlying97 h with ⟨hc, _⟩ | ⟨a, len, cap, m, n, D, Pl, hc, _, hl, hm, hmm, _, hx⟩
  · simp only [List.cons.injEq, and_true] at hc
    subst hc
    exact ⟨[], ⟨none, 0, rfl, by simp, fun i hi => absurd hi (Nat.not_lt_zero _)⟩, fun i hi => by simp at hi⟩
  · simp only [List.cons.injEq, and_true] at hc
    subst hc
    simp only [if_true] at hmm
    subst hmm
    have hC : Tryz.prog.cellsOf 189 = 3 := by kernel_rfl
    rw [hC] at hx
    obtain ⟨q, hq⟩ := choose_lt (α := MvM) (p := fun i q => W.cell? (a.add (i * 3)) = some (.int .i64 q.to) ∧ W.cell? (a.add (i * 3 + 1)) = some (.int .i64 q.kind) ∧ W.cell? (a.add (i * 3 + 2)) = some (.int .i64 q.n) ∧ q.ok) (fun i hi => by
      obtain ⟨cs, h1, h2⟩ := hx i hi
      obtain ⟨x, y, u, rfl, hok⟩ := mov_of h2
      obtain ⟨_, _, hcell⟩ := World.cells?_some h1
      have e0 := hcell 0 (by omega)
      have e1 := hcell 1 (by omega)
      have e2 := hcell 2 (by omega)
      rw [add_add] at e0 e1 e2
      exact ⟨⟨x, y, u⟩, by simpa using e0, by simpa using e1, by simpa using e2, hok⟩)
    refine ⟨(List.range len).map fun i => q i, ⟨some a, m, by simp, by simp; unfold maxLen at hm; omega, fun i hi => ?_⟩, fun i hi => ?_⟩
    · have hi' : i < len := by simpa using hi
      obtain ⟨c0, _⟩ := hq 0 (by omega)
      obtain ⟨b, off, rfl, hlt⟩ := plain_addr (by simpa using c0)
      obtain ⟨e0, e1, e2, _⟩ := hq i (by omega)
      rw [plain_add] at e0 e1 e2
      exact ⟨b, off, rfl, Nat.zero_le _, hlt, by simpa using e0, by simpa [Nat.add_assoc] using e1, by simpa [Nat.add_assoc] using e2⟩
    · obtain ⟨j, hj, rfl⟩ := List.mem_map.1 hi
      exact (hq j (by have := List.mem_range.1 hj; omega)).2.2.2

theorem ai_of {fuel : Nat} {cs : List Value} {x : DataW H × List MemPlace} (h : DataW.trod enc Tryz.prog W 0 (fun _ => true) true fuel 100 cs = some x) : ∃ u x y t z l k, cs = [u, .int .i64 x, .int .i64 y, t, .int .i64 z] ∧ MvRow 0 W u l ∧ InsRow 0 W t k ∧ AiM.ok ⟨l, x, y, k, z⟩ := by
  obtain ⟨xs, n, _, _, hlen, hxl, hfd⟩ := DataW.trod_struct Tryz.underlying100 h
  rw [show Tryz.prog.cellsOf 100 = 5 by kernel_rfl] at hlen
  have f0 := hfd 0 _ rfl
  have f1 := hfd 1 _ rfl
  have f2 := hfd 2 _ rfl
  have f3 := hfd 3 _ rfl
  have f4 := hfd 4 _ rfl
  match cs, hlen, xs, hxl with
  | [v0, v1, v2, v3, v4], _, [y0, y1, y2, y3, y4], _ =>
    obtain ⟨l, hl, hlk⟩ := movRow_of (show DataW.trod enc Tryz.prog W 0 (fun _ => true) true n 97 [v0] = some y0 from f0)
    obtain ⟨x, rfl, hx⟩ := int_of (show DataW.trod enc Tryz.prog W 0 (fun _ => true) true n 2 [v1] = some y1 from f1)
    obtain ⟨y, rfl, hy⟩ := int_of (show DataW.trod enc Tryz.prog W 0 (fun _ => true) true n 2 [v2] = some y2 from f2)
    obtain ⟨k, hk, hkk⟩ := valRow_of (show DataW.trod enc Tryz.prog W 0 (fun _ => true) true n 98 [v3] = some y3 from f3)
    obtain ⟨z, rfl, hz⟩ := int_of (show DataW.trod enc Tryz.prog W 0 (fun _ => true) true n 2 [v4] = some y4 from f4)
    exact ⟨v0, x, y, v3, z, l, k, rfl, hl, hk, hlk, hx, hy, hkk, hz⟩

theorem aiRow_of {fuel : Nat} {x : DataW H × List MemPlace} (h : DataW.trod enc Tryz.prog W 0 (fun _ => true) true fuel 25 [v] = some x) : ∃ p, AiRow 0 W v p ∧ ∀ f ∈ p, f.ok := by
  rcases open_slice Tryz.underlying25 h with ⟨hc, _⟩ | ⟨a, len, cap, m, n, D, Pl, hc, _, hl, hm, hmm, _, hx⟩
  · simp only [List.cons.injEq, and_true] at hc
    subst hc
    exact ⟨[], ⟨none, 0, rfl, by simp, fun i hi => absurd hi (Nat.not_lt_zero _)⟩, fun i hi => by simp at hi⟩
  · simp only [List.cons.injEq, and_true] at hc
    subst hc
    simp only [if_true] at hmm
    subst hmm
    have hC : Tryz.prog.cellsOf 100 = 5 := by kernel_rfl
    rw [hC] at hx
    obtain ⟨q, hq⟩ := choose_lt (α := AiM × Value × Value) (p := fun i q => W.cell? (a.add (i * 5)) = some q.2.1 ∧ W.cell? (a.add (i * 5 + 1)) = some (.int .i64 q.1.op) ∧ W.cell? (a.add (i * 5 + 2)) = some (.int .i64 q.1.to) ∧ W.cell? (a.add (i * 5 + 3)) = some q.2.2 ∧ W.cell? (a.add (i * 5 + 4)) = some (.int .i64 q.1.t) ∧ MvRow 0 W q.2.1 q.1.pre ∧ InsRow 0 W q.2.2 q.1.l ∧ q.1.ok) (fun i hi => by
      obtain ⟨cs, h1, h2⟩ := hx i hi
      obtain ⟨u, x, y, t, z, l, k, rfl, hr, hk, hok⟩ := ai_of h2
      obtain ⟨_, _, hcell⟩ := World.cells?_some h1
      have e0 := hcell 0 (by omega)
      have e1 := hcell 1 (by omega)
      have e2 := hcell 2 (by omega)
      have e3 := hcell 3 (by omega)
      have e4 := hcell 4 (by omega)
      rw [add_add] at e0 e1 e2 e3 e4
      exact ⟨(⟨l, x, y, k, z⟩, u, t), by simpa using e0, by simpa using e1, by simpa using e2, by simpa using e3, by simpa using e4, hr, hk, hok⟩)
    refine ⟨(List.range len).map fun i => (q i).1, ⟨some a, m, by simp, by simp; unfold maxLen at hm; omega, fun i hi => ?_⟩, fun i hi => ?_⟩
    · have hi' : i < len := by simpa using hi
      obtain ⟨c0, c1, _⟩ := hq 0 (by omega)
      obtain ⟨b, off, rfl, hlt⟩ := plain_addr (by simpa using c0)
      obtain ⟨e0, e1, e2, e3, e4, hr, hk, _⟩ := hq i (by omega)
      rw [plain_add] at e0 e1 e2 e3 e4
      exact ⟨b, off, (q i).2.1, (q i).2.2, rfl, Nat.zero_le _, hlt, by simpa using e0, by simpa [Nat.add_assoc] using e1, by simpa [Nat.add_assoc] using e2, by simpa [Nat.add_assoc] using e3, by simpa [Nat.add_assoc] using e4, by simpa using hr, by simpa using hk⟩
    · obtain ⟨j, hj, rfl⟩ := List.mem_map.1 hi
      exact (hq j (by have := List.mem_range.1 hj; omega)).2.2.2.2.2.2.2

theorem mapsRow_of {fuel : Nat} {x : DataW H × List MemPlace} (h : DataW.trod enc Tryz.prog W 0 (fun _ => true) true fuel 26 [v] = some x) : ∃ c, MapsRow 0 W v c ∧ ∀ a ∈ c, I64v a := by
  rcases open_slice Tryz.underlying26 h with ⟨hc, _⟩ | ⟨a, len, cap, m, n, D, Pl, hc, _, hl, hm, hmm, _, hx⟩
  · simp only [List.cons.injEq, and_true] at hc
    subst hc
    exact ⟨[], ⟨none, 0, rfl, by simp, fun i hi => absurd hi (Nat.not_lt_zero _)⟩, fun i hi => by simp at hi⟩
  · simp only [List.cons.injEq, and_true] at hc
    subst hc
    simp only [if_true] at hmm
    subst hmm
    have hC : Tryz.prog.cellsOf 98 = 1 := by kernel_rfl
    rw [hC] at hx
    obtain ⟨q, hq⟩ := choose_lt (α := Value × List (Int × Int)) (p := fun i q => W.cell? (a.add i) = some q.1 ∧ InsRow 0 W q.1 q.2 ∧ I64v q.2) (fun i hi => by
      obtain ⟨cs, h1, h2⟩ := hx i hi
      obtain ⟨hl1, _, hcell⟩ := World.cells?_some h1
      match cs, hl1 with
      | [u], _ =>
        obtain ⟨c, hr, hy⟩ := valRow_of h2
        have e0 := hcell 0 (by omega)
        rw [add_add] at e0
        exact ⟨(u, c), by simpa using e0, hr, hy⟩)
    refine ⟨(List.range len).map fun i => (q i).2, ⟨some a, m, by simp, by simp; unfold maxLen at hm; omega, fun i hi => ?_⟩, fun z hz => ?_⟩
    · have hi' : i < len := by simpa using hi
      obtain ⟨c0, _⟩ := hq 0 (by omega)
      obtain ⟨b, off, rfl, hlt⟩ := plain_addr (by simpa using c0)
      obtain ⟨e0, hr, _⟩ := hq i (by omega)
      rw [plain_add] at e0
      exact ⟨b, off, (q i).1, rfl, Nat.zero_le _, hlt, by simpa using e0, by simpa using hr⟩
    · obtain ⟨j, hj, rfl⟩ := List.mem_map.1 hz
      exact (hq j (by have := List.mem_range.1 hj; omega)).2.2

theorem inAsm (hv : Value.okWide Tryz.prog W r base 28 v) (h : DataW.Trod enc Tryz.prog W 0 (fun _ => true) true 28 v d p) : IsAsm W v := by
  obtain ⟨cs, rfl, hsz⟩ := okWide_struct Tryz.underlying28 hv
  rw [show Tryz.prog.cellsOf 28 = 3 by kernel_rfl] at hsz
  obtain ⟨fuel, hf⟩ := h
  obtain ⟨xs, n, _, _, _, hxl, hfd⟩ := DataW.trod_struct Tryz.underlying28 hf
  have f0 := hfd 0 _ rfl
  have f1 := hfd 1 _ rfl
  have f2 := hfd 2 _ rfl
  obtain ⟨l⟩ := cs
  match l, hsz, xs, hxl with
  | [u0, u1, u2], _, [y0, y1, y2], _ =>
    obtain ⟨fu, rfl, ofu⟩ := int_of (show DataW.trod enc Tryz.prog W 0 (fun _ => true) true n 2 [u0] = some y0 from f0)
    obtain ⟨co, hco, oco⟩ := aiRow_of (show DataW.trod enc Tryz.prog W 0 (fun _ => true) true n 25 [u1] = some y1 from f1)
    obtain ⟨ma, hma, oma⟩ := mapsRow_of (show DataW.trod enc Tryz.prog W 0 (fun _ => true) true n 26 [u2] = some y2 from f2)
    exact ⟨u1, u2, ⟨fu, co, ma⟩, rfl, ⟨hco, hma⟩, ofu, oco, oma⟩
end
end Go.Proofs.YtijgonjnmibifaaGreatDoor
