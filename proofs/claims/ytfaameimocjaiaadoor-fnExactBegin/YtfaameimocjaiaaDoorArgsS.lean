/- What a law's argument is told as, and that it is so of each that came in: a list of numbers, a state. -/
import Derived.Test.YtfaameimocjaiaaDoorArgs
import Derived.Test.YtfaameimocjaiaaDoorSt
namespace Go.Proofs.YtfaameimocjaiaaDoor
open Go.RowKit Go.ChangeShapes Go.WideShapes Go.ChangeAt Go.Deep
set_option maxRecDepth 100000

def I64s (l : List Int) : Prop := ∀ z ∈ l, I64 z
def FrM.ok (f : FrM) : Prop := I64 f.func ∧ I64 f.pc ∧ I64s f.locals ∧ I64s f.stack
def StM.ok (s : StM) : Prop := (∀ f ∈ s.frames, f.ok) ∧ (∀ a ∈ s.heap, I64s a) ∧ I64s s.out ∧ I64 s.fuel ∧ I64 s.value ∧ I64 s.trap

def IsInts (w : World) (v : Value) : Prop := ∃ l, IRow 0 w v l ∧ I64s l
def IsState (w : World) (v : Value) : Prop := ∃ x y z s, v = stV x y z s ∧ StRow 0 w x y z s ∧ s.ok

section
variable {H : Type} {enc : TypeId × Value → H} {W : World} {r : Reach} {base : Nat} {v : Value} {d : DataW H} {p : List MemPlace}

theorem iRow_of {fuel : Nat} {x : DataW H × List MemPlace} (h : DataW.trod enc Tryd.prog W 0 (fun _ => true) true fuel 33 [v] = some x) : ∃ c, IRow 0 W v c ∧ I64s c := by
  rcases open_slice Tryd.underlying33 h with ⟨hc, _⟩ | ⟨a, len, cap, m, n, D, Pl, hc, _, hl, hm, hmm, _, hx⟩
  · simp only [List.cons.injEq, and_true] at hc
    subst hc
    exact ⟨[], ⟨none, 0, rfl, by simp, fun i hi => absurd hi (Nat.not_lt_zero _)⟩, fun i hi => by simp at hi⟩
  · simp only [List.cons.injEq, and_true] at hc
    subst hc
    simp only [if_true] at hmm
    subst hmm
    have hC : Tryd.prog.cellsOf 2 = 1 := by kernel_rfl
    rw [hC] at hx
    obtain ⟨q, hq⟩ := choose_lt (α := Int) (p := fun i q => W.cell? (a.add i) = some (.int .i64 q) ∧ I64 q) (fun i hi => by
      obtain ⟨cs, h1, h2⟩ := hx i hi
      obtain ⟨hl1, _, hcell⟩ := World.cells?_some h1
      match cs, hl1 with
      | [u], _ =>
        obtain ⟨y, rfl, hy⟩ := int_of h2
        have e0 := hcell 0 (by omega)
        rw [add_add] at e0
        exact ⟨y, by simpa using e0, hy⟩)
    refine ⟨(List.range len).map q, ⟨some a, m, by simp, by simp; unfold maxLen at hm; omega, fun i hi => ?_⟩, fun z hz => ?_⟩
    · have hi' : i < len := by simpa using hi
      obtain ⟨c0, _⟩ := hq 0 (by omega)
      obtain ⟨b, off, rfl, hlt⟩ := plain_addr (by simpa using c0)
      obtain ⟨e0, _⟩ := hq i (by omega)
      rw [plain_add] at e0
      exact ⟨b, off, rfl, Nat.zero_le _, hlt, by simpa using e0⟩
    · obtain ⟨j, hj, rfl⟩ := List.mem_map.1 hz
      exact (hq j (by have := List.mem_range.1 hj; omega)).2

theorem inInts (hv : Value.okWide Tryd.prog W r base 33 v) (h : DataW.Trod enc Tryd.prog W 0 (fun _ => true) true 33 v d p) : IsInts W v := by
  obtain ⟨a, len, cap, rfl⟩ := okWide_slice Tryd.underlying33 hv
  obtain ⟨fuel, hf⟩ := h
  obtain ⟨c, h1, h2⟩ := iRow_of (show DataW.trod enc Tryd.prog W 0 (fun _ => true) true fuel 33 [.slice a len cap] = some (d, p) from hf)
  exact ⟨c, h1, h2⟩

theorem arrRow_of {fuel : Nat} {x : DataW H × List MemPlace} (h : DataW.trod enc Tryd.prog W 0 (fun _ => true) true fuel 35 [v] = some x) : ∃ c, ArrRow 0 W v c ∧ ∀ a ∈ c, I64s a := by
  rcases open_slice Tryd.underlying35 h with ⟨hc, _⟩ | ⟨a, len, cap, m, n, D, Pl, hc, _, hl, hm, hmm, _, hx⟩
  · simp only [List.cons.injEq, and_true] at hc
    subst hc
    exact ⟨[], ⟨none, 0, rfl, by simp, fun i hi => absurd hi (Nat.not_lt_zero _)⟩, fun i hi => by simp at hi⟩
  · simp only [List.cons.injEq, and_true] at hc
    subst hc
    simp only [if_true] at hmm
    subst hmm
    have hC : Tryd.prog.cellsOf 33 = 1 := by kernel_rfl
    rw [hC] at hx
    obtain ⟨q, hq⟩ := choose_lt (α := Value × List Int) (p := fun i q => W.cell? (a.add i) = some q.1 ∧ IRow 0 W q.1 q.2 ∧ I64s q.2) (fun i hi => by
      obtain ⟨cs, h1, h2⟩ := hx i hi
      obtain ⟨hl1, _, hcell⟩ := World.cells?_some h1
      match cs, hl1 with
      | [u], _ =>
        obtain ⟨c, hr, hy⟩ := iRow_of h2
        have e0 := hcell 0 (by omega)
        rw [add_add] at e0
        exact ⟨(u, c), by simpa using e0, hr, hy⟩)
    refine ⟨(List.range len).map fun i => (q i).2, ⟨some a, m, by simp, by simp; unfold maxLen at hm; omega, fun i hi => ?_⟩, fun z hz => ?_⟩
    · have hi' : i < len := by simpa using hi
      obtain ⟨c0, _⟩ := hq 0 (by omega)
      obtain ⟨b, off, rfl, hlt⟩ := plain_addr (by simpa using c0)
      obtain ⟨e0, hr, _⟩ := hq i (by omega)
      rw [plain_add] at e0
      exact ⟨b, off, (q i).1, rfl, Nat.zero_le _, hlt, by simpa using e0, by simpa using hr⟩
    · obtain ⟨j, hj, rfl⟩ := List.mem_map.1 hz
      exact (hq j (by have := List.mem_range.1 hj; omega)).2.2

theorem frame_of {fuel : Nat} {cs : List Value} {x : DataW H × List MemPlace} (h : DataW.trod enc Tryd.prog W 0 (fun _ => true) true fuel 102 cs = some x) : ∃ x y u t l k, cs = [.int .i64 x, .int .i64 y, u, t] ∧ IRow 0 W u l ∧ IRow 0 W t k ∧ FrM.ok ⟨x, y, l, k⟩ := by
  obtain ⟨xs, n, _, _, hlen, hxl, hfd⟩ := DataW.trod_struct Tryd.underlying102 h
  rw [show Tryd.prog.cellsOf 102 = 4 by kernel_rfl] at hlen
  have f0 := hfd 0 _ rfl
  have f1 := hfd 1 _ rfl
  have f2 := hfd 2 _ rfl
  have f3 := hfd 3 _ rfl
  match cs, hlen, xs, hxl with
  | [v0, v1, v2, v3], _, [y0, y1, y2, y3], _ =>
    obtain ⟨x, rfl, hx⟩ := int_of (show DataW.trod enc Tryd.prog W 0 (fun _ => true) true n 2 [v0] = some y0 from f0)
    obtain ⟨y, rfl, hy⟩ := int_of (show DataW.trod enc Tryd.prog W 0 (fun _ => true) true n 2 [v1] = some y1 from f1)
    obtain ⟨l, hl, hlk⟩ := iRow_of (show DataW.trod enc Tryd.prog W 0 (fun _ => true) true n 33 [v2] = some y2 from f2)
    obtain ⟨k, hk, hkk⟩ := iRow_of (show DataW.trod enc Tryd.prog W 0 (fun _ => true) true n 33 [v3] = some y3 from f3)
    exact ⟨x, y, v2, v3, l, k, rfl, hl, hk, hx, hy, hlk, hkk⟩

theorem frRow_of {fuel : Nat} {x : DataW H × List MemPlace} (h : DataW.trod enc Tryd.prog W 0 (fun _ => true) true fuel 46 [v] = some x) : ∃ p, FrRow 0 W v p ∧ ∀ f ∈ p, f.ok := by
  rcases open_slice Tryd.underlying46 h with ⟨hc, _⟩ | ⟨a, len, cap, m, n, D, Pl, hc, _, hl, hm, hmm, _, hx⟩
  · simp only [List.cons.injEq, and_true] at hc
    subst hc
    exact ⟨[], ⟨none, 0, rfl, by simp, fun i hi => absurd hi (Nat.not_lt_zero _)⟩, fun i hi => by simp at hi⟩
  · simp only [List.cons.injEq, and_true] at hc
    subst hc
    simp only [if_true] at hmm
    subst hmm
    have hC : Tryd.prog.cellsOf 102 = 4 := by kernel_rfl
    rw [hC] at hx
    obtain ⟨q, hq⟩ := choose_lt (α := FrM × Value × Value) (p := fun i q => W.cell? (a.add (i * 4)) = some (.int .i64 q.1.func) ∧ W.cell? (a.add (i * 4 + 1)) = some (.int .i64 q.1.pc) ∧ W.cell? (a.add (i * 4 + 2)) = some q.2.1 ∧ W.cell? (a.add (i * 4 + 3)) = some q.2.2 ∧ IRow 0 W q.2.1 q.1.locals ∧ IRow 0 W q.2.2 q.1.stack ∧ q.1.ok) (fun i hi => by
      obtain ⟨cs, h1, h2⟩ := hx i hi
      obtain ⟨x, y, u, t, l, k, rfl, hr, hk, hok⟩ := frame_of h2
      obtain ⟨_, _, hcell⟩ := World.cells?_some h1
      have e0 := hcell 0 (by omega)
      have e1 := hcell 1 (by omega)
      have e2 := hcell 2 (by omega)
      have e3 := hcell 3 (by omega)
      rw [add_add] at e0 e1 e2 e3
      exact ⟨(⟨x, y, l, k⟩, u, t), by simpa using e0, by simpa using e1, by simpa using e2, by simpa using e3, hr, hk, hok⟩)
    refine ⟨(List.range len).map fun i => (q i).1, ⟨some a, m, by simp, by simp; unfold maxLen at hm; omega, fun i hi => ?_⟩, fun i hi => ?_⟩
    · have hi' : i < len := by simpa using hi
      obtain ⟨c0, _⟩ := hq 0 (by omega)
      obtain ⟨b, off, rfl, hlt⟩ := plain_addr (by simpa using c0)
      obtain ⟨e0, e1, e2, e3, hr, hk, _⟩ := hq i (by omega)
      rw [plain_add] at e0 e1 e2 e3
      exact ⟨b, off, (q i).2.1, (q i).2.2, rfl, Nat.zero_le _, hlt, by simpa using e0, by simpa [Nat.add_assoc] using e1, by simpa [Nat.add_assoc] using e2, by simpa [Nat.add_assoc] using e3, by simpa using hr, by simpa using hk⟩
    · obtain ⟨j, hj, rfl⟩ := List.mem_map.1 hi
      exact (hq j (by have := List.mem_range.1 hj; omega)).2.2.2.2.2.2

theorem inState (hv : Value.okWide Tryd.prog W r base 48 v) (h : DataW.Trod enc Tryd.prog W 0 (fun _ => true) true 48 v d p) : IsState W v := by
  obtain ⟨cs, rfl, hsz⟩ := okWide_struct Tryd.underlying48 hv
  rw [show Tryd.prog.cellsOf 48 = 7 by kernel_rfl] at hsz
  obtain ⟨fuel, hf⟩ := h
  obtain ⟨xs, n, _, _, _, hxl, hfd⟩ := DataW.trod_struct Tryd.underlying48 hf
  have f0 := hfd 0 _ rfl
  have f1 := hfd 1 _ rfl
  have f2 := hfd 2 _ rfl
  have f3 := hfd 3 _ rfl
  have f4 := hfd 4 _ rfl
  have f5 := hfd 5 _ rfl
  have f6 := hfd 6 _ rfl
  obtain ⟨l⟩ := cs
  match l, hsz, xs, hxl with
  | [u0, u1, u2, u3, u4, u5, u6], _, [y0, y1, y2, y3, y4, y5, y6], _ =>
    obtain ⟨fr, hfr, ofr⟩ := frRow_of (show DataW.trod enc Tryd.prog W 0 (fun _ => true) true n 46 [u0] = some y0 from f0)
    obtain ⟨hp, hhp, ohp⟩ := arrRow_of (show DataW.trod enc Tryd.prog W 0 (fun _ => true) true n 35 [u1] = some y1 from f1)
    obtain ⟨ot, hot, oot⟩ := iRow_of (show DataW.trod enc Tryd.prog W 0 (fun _ => true) true n 33 [u2] = some y2 from f2)
    obtain ⟨fu, rfl, ofu⟩ := int_of (show DataW.trod enc Tryd.prog W 0 (fun _ => true) true n 2 [u3] = some y3 from f3)
    obtain ⟨bo, hbo, _⟩ := DataW.trod_bool Tryd.underlying4 (show DataW.trod enc Tryd.prog W 0 (fun _ => true) true n 4 [u4] = some y4 from f4)
    obtain ⟨va, rfl, ova⟩ := int_of (show DataW.trod enc Tryd.prog W 0 (fun _ => true) true n 2 [u5] = some y5 from f5)
    obtain ⟨tr, rfl, otr⟩ := int_of (show DataW.trod enc Tryd.prog W 0 (fun _ => true) true n 2 [u6] = some y6 from f6)
    simp only [List.cons.injEq, and_true] at hbo
    subst hbo
    exact ⟨u0, u1, u2, ⟨fr, hp, ot, fu, bo, va, tr⟩, rfl, ⟨hfr, hhp, hot⟩, ofr, ohp, oot, ofu, ova, otr⟩
end
end Go.Proofs.YtfaameimocjaiaaDoor
