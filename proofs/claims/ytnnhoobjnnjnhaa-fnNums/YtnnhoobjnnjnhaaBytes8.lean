/- A slice of bytes that the call itself made, told by its cells; a text appended to it; it as a text. -/
import Derived.Test.YtnnhoobjnnjnhaaPutS
import Derived.Lib.AppendStr
import Derived.Lib.LazyBuf
import Derived.Deep.MidRow
namespace Go.Proofs.Ytnnhoobjnnjnhaa
open Go.RowKit

/-- v is a slice of bytes at the head of a block from 'base' on: its bytes are l; all of its room may be written -/
def Bytes8 (w : World) (base : Nat) (v : Value) (l : List UInt8) : Prop :=
  ∃ g cap, v = .slice (some ⟨g, 0, none⟩) l.length cap ∧ base ≤ g ∧ g < w.heap.size ∧ l.length ≤ cap ∧ cap ≤ maxLen ∧
    (∀ j (h : j < l.length), w.cell? ⟨g, j, none⟩ = some (.int .u8 (l[j].toNat : Int))) ∧ (∀ j, j < cap → (w.cell? ⟨g, j, none⟩).isSome = true ∧ w.frozen? ⟨g, j, none⟩ = false)

theorem Bytes8.below {w w' : World} {base : Nat} {v : Value} {l : List UInt8} (h : Bytes8 w base v l) (hb : Below w.heap.size w w') : Bytes8 w' base v l := by
  obtain ⟨g, cap, rfl, h1, h2, h3, h4, h5, h6⟩ := h
  refine ⟨g, cap, rfl, h1, Nat.lt_of_lt_of_le h2 hb.size, h3, h4, fun j hj => ?_, fun j hj => ?_⟩
  · rw [hb.cell (by exact h2)]; exact h5 j hj
  · rw [hb.cell (by exact h2), hb.frozen (by exact h2)]; exact h6 j hj

theorem Bytes8.text {w : World} {base : Nat} {v : Value} {l : List UInt8} (h : Bytes8 w base v l) :
    ∃ g cap, v = .slice (some ⟨g, 0, none⟩) l.length cap ∧ (convert 22 9 (.slice (some ⟨g, 0, none⟩) l.length cap)).run Try.prog w = .ok (.string ⟨l.toArray⟩) w := by
  obtain ⟨g, cap, rfl, h1, h2, h3, h4, h5, h6⟩ := h
  refine ⟨g, cap, rfl, run_convert_bytes_back w 22 9 5 ⟨g, 0, none⟩ cap l Try.underlying22 Try.underlying5 Try.underlying9 ?_⟩
  intro j hj
  have ha : (⟨g, 0, none⟩ : Addr).add j = ⟨g, j, none⟩ := by simp [Addr.add]; exact fun h => h.symm
  rw [ha, h5 j hj]

theorem strCells_get (s : ByteArray) (j : Nat) (h : j < s.size) : (Lib.strCells s)[j]'(by rw [Lib.strCells_length]; exact h) = .int .u8 (s[j].toNat : Int) := by
  simp [Lib.strCells]
  rfl

/-- the same bytes as cells, laid behind what is there -/
theorem cells_laid {w : World} {g : Nat} {l : List UInt8} {s : ByteArray} (h5 : ∀ j (h : j < l.length), w.cell? ⟨g, j, none⟩ = some (.int .u8 (l[j].toNat : Int)))
    (hs : ∀ j, j < s.size → (w.cell? ⟨g, l.length + j, none⟩).isSome = true) :
    ∀ j (h : j < (l ++ s.data.toList).length), (w.setCells g l.length (Lib.strCells s)).cell? ⟨g, j, none⟩ = some (.int .u8 ((l ++ s.data.toList)[j].toNat : Int)) := by
  intro j hj
  by_cases hjl : j < l.length
  · rw [World.cell?_setCells_out g _ _ _ _ (fun _ _ => .inl (by exact hjl)), h5 j hjl, List.getElem_append_left hjl]
  · obtain ⟨i, rfl⟩ : ∃ i, j = l.length + i := ⟨j - l.length, by omega⟩
    have hi : i < s.size := by simp at hj; exact hj
    rw [World.cell?_setCells_in g _ _ _ (by rw [Lib.strCells_length]; exact hs) i (by rw [Lib.strCells_length]; exact hi), strCells_get s i hi]
    rw [List.getElem_append_right (by omega)]
    simp
    rfl

theorem byteCells_get (l : List UInt8) (j : Nat) (h : j < l.length) : (Lib.byteCells l)[j]? = some (.int .u8 (l[j].toNat : Int)) := by
  unfold Lib.byteCells
  rw [List.getElem?_map, List.getElem?_eq_getElem h]
  rfl

theorem frozen_new (W : World) (C : Array Value) (t : TypeId) (fz : Nat × Nat) (j : Nat) (h : fz.2 ≤ j ∨ j < fz.1) : (W.alloc (.cells C t fz)).frozen? ⟨W.heap.size, j, none⟩ = false := by
  have hb : (W.alloc (.cells C t fz)).heap[W.heap.size]? = some (.cells C t fz) := heap_alloc_new W _
  obtain ⟨lo, hi⟩ := fz
  simp only [World.frozen?, hb, Bool.and_eq_false_iff, decide_eq_false_iff_not]
  simp only at h
  omega

/-- 'append(b, s...)' -/
theorem run_append_bytes8 {w : World} {base : Nat} {v : Value} {l : List UInt8} (h : Bytes8 w base v l) (s : ByteArray) (ty : TypeId) (hsz : l.length + s.size ≤ 1000000) (hbase : base ≤ w.heap.size) :
    ∃ v' w', (Builtin.append_ #[22, 9] ty #[v, .string s]).run Try.prog w = .ok v' w' ∧ Bytes8 w' base v' (l ++ s.data.toList) ∧ Below base w w' := by
  obtain ⟨g, cap, rfl, h1, h2, h3, h4, h5, h6⟩ := h
  obtain ⟨i0, hi, hz0, hz1, hz2⟩ := info_parts Try.info5
  have hlen : (l ++ s.data.toList).length = l.length + s.size := by simp
  by_cases hroom : l.length + s.size ≤ cap
  · have hf := Lib.run_firstCells_string (P := Try.prog) w 1 s
    have hst := run_storeCells_cells (P := Try.prog) g l.length (Lib.strCells s) 0 w (by rw [Lib.strCells_length]; intro j hj; exact (h6 _ (by omega)).1) (by rw [Lib.strCells_length]; intro j hj; exact (h6 _ (by omega)).2) (Lib.strCells_oneCell s)
    refine ⟨.slice (some ⟨g, 0, none⟩) (l.length + s.size) cap, w.setCells g l.length (Lib.strCells s), ?_, ⟨g, cap, by rw [hlen], h1, ?_, by omega, h4, ?_, ?_⟩, ?_⟩
    · simp only [Nat.add_zero] at hst
      simp [Builtin.append_, run_underlying Try.underlying22, run_underlying Try.underlying9, sizeOf, typeInfo, hi, hz1, Builtin.lenOf, hroom, hf, Addr.add_lit, hst]
    · exact Nat.lt_of_lt_of_le h2 (below_setCells (B := 0) (Nat.zero_le _) _ _ _ (Below.refl _ _)).size
    · exact cells_laid h5 fun j hj => (h6 _ (by omega)).1
    · intro j hj
      rw [World.frozen?_setCells]
      exact ⟨World.isSome_setCells g _ _ _ _ (h6 j hj).1, (h6 j hj).2⟩
    · exact below_setCells h1 _ _ _ (Below.refl _ _)
  · have holds : ∀ j u, (Lib.byteCells l)[j]? = some u → w.cell? ((⟨g, 0, none⟩ : Addr).add j) = some u := by
      intro j u hu
      have ha : (⟨g, 0, none⟩ : Addr).add j = ⟨g, j, none⟩ := by simp [Addr.add]; exact fun h => h.symm
      have hj : j < l.length := by
        have := (List.getElem?_eq_some_iff.1 hu).1
        simpa [Lib.byteCells] using this
      rw [ha, h5 j hj, ← hu]
      simp [Lib.byteCells, hj]
    have hr := Lib.run_append_grow_string (P := Try.prog) w 22 9 ty 5 i0 (.int .u8 0) Try.underlying22 Try.underlying9 hi hz0 ⟨g, 0, none⟩ l.length cap (Lib.byteCells l) (by rw [hz1]; simp [Lib.byteCells]) holds s (by omega) (by omega) (by rw [hz2]; exact growslice_fits (by omega) (by omega))
    have hge := grownCap_ge w (l.length + s.size) cap 5
    have hcm := grownCap_le_maxLen w (l.length + s.size) cap 5 (by unfold maxLen; omega)
    generalize grownCap w (l.length + s.size) cap 5 = gc at hr hge hcm
    have hC : ∀ j, j < gc → ∃ u, ((Lib.byteCells l).toArray ++ (Lib.strCells s).toArray ++ Builtin.zeroCells (Value.int IntKind.u8 0).cells (gc - (l.length + s.size)))[j]? = some u ∧ (∀ h : j < (l ++ s.data.toList).length, u = .int .u8 ((l ++ s.data.toList)[j].toNat : Int)) := by
      intro j hj
      have hz : (Value.int IntKind.u8 0).cells.size = 1 := rfl
      have e : (Lib.byteCells l).toArray ++ (Lib.strCells s).toArray = (Lib.byteCells (l ++ s.data.toList)).toArray := by
        simp [Lib.byteCells, Lib.strCells]
      rw [e]
      have hsz : (Lib.byteCells (l ++ s.data.toList)).toArray.size = l.length + s.size := by simp [Lib.byteCells]
      by_cases hjs : j < l.length + s.size
      · refine ⟨.int .u8 ((l ++ s.data.toList)[j]'(by rw [hlen]; exact hjs)).toNat, ?_, fun h => rfl⟩
        rw [Array.getElem?_append_left (by rw [hsz]; exact hjs)]
        rw [List.getElem?_toArray]
        exact byteCells_get _ j (by rw [hlen]; exact hjs)
      · have hgt : ((Lib.byteCells (l ++ s.data.toList)).toArray ++ Builtin.zeroCells (Value.int IntKind.u8 0).cells (gc - (l.length + s.size))).size = gc := by
          rw [Array.size_append, hsz, size_zeroCells, hz]; omega
        exact ⟨_, Array.getElem?_eq_getElem (by rw [hgt]; exact hj), fun h => absurd h (by rw [hlen]; exact hjs)⟩
    refine ⟨_, _, hr, ⟨w.heap.size, gc, by rw [hlen], hbase, by simp, by omega, hcm, ?_, ?_⟩, ?_⟩
    · intro j hj
      obtain ⟨u, hu, huu⟩ := hC j (by rw [hlen] at hj; omega)
      rw [← huu hj, ← hu]
      exact World.cell?_alloc_mark w.drew _ 5 (0, 0) j
    · intro j hj
      obtain ⟨u, hu, _⟩ := hC j hj
      refine ⟨?_, frozen_new w.drew _ 5 (0, 0) j (.inl (Nat.zero_le _))⟩
      have hcell := World.cell?_alloc_mark w.drew ((Lib.byteCells l).toArray ++ (Lib.strCells s).toArray ++ Builtin.zeroCells (Value.int IntKind.u8 0).cells (gc - (l.length + s.size))) 5 (0, 0) j
      have hcell2 := hcell.trans hu
      have e : w.drew.heap.size = w.heap.size := rfl
      rw [e] at hcell2
      rw [hcell2]
      rfl
    · exact (Below.refl _ _).drew.alloc (by exact hbase) _

/-- the operation, for the walk -/
theorem wpList_append_bytes8 {w : World} {ops : Array Oper} {rest : List Oper} {o : Oper} {a : Act} {Q : Exit → Act → World → Prop} (hgd : o.guard = none) (sl x : Operand)
    (ho : o.op = .call { callee := .builtin .append, args := #[sl, x], argTypes := #[22, 9] })
    (base : Nat) (v : Value) (l : List UInt8) (hs : a.eval sl = v) (hown : Bytes8 w base v l) (s : ByteArray) (hx : a.eval x = .string s) (hsz : l.length + s.size ≤ 1000000) (hbase : base ≤ w.heap.size)
    (h : ∀ v' w', Bytes8 w' base v' (l ++ s.data.toList) → Below base w w' → wpList Try.prog ops Q rest (a.put o.dst v') w') : wpList Try.prog ops Q (o :: rest) a w := by
  refine wpList_plain hgd fun K hK => ?_
  obtain ⟨v', w', hr, h2, h3⟩ := run_append_bytes8 hown s o.type hsz hbase
  unfold Oper.wp execOp
  simp only [ho, resolve, invoke, builtin, Sem.run_bind, Sem.run_pure, Result.andThen_ok, List.map_toArray, List.map_cons, List.map_nil, hs, hx, hr]
  exact hK _ _ (h v' w' h2 h3)

/-- '[]byte(s)' -/
theorem bytes8_of_string (w : World) (s : ByteArray) (hs : s.size ≤ 1000000) :
    ∃ v w', (convert 9 22 (.string s)).run Try.prog w = .ok v w' ∧ Bytes8 w' w.heap.size v s.data.toList ∧ Below w.heap.size w w' := by
  have hr := run_bytes_of_string (P := Try.prog) w 9 22 5 s Try.underlying9 Try.underlying22 Try.underlying5
  have hge := grownCap_ge w s.size 0 5
  have hcm := grownCap_le_maxLen w s.size 0 5 (by unfold maxLen; omega)
  generalize grownCap w s.size 0 5 = gc at hr hge hcm
  have hsz : (bytesRow s gc).size = gc := by simp [bytesRow]; omega
  have hlen : s.data.toList.length = s.size := by simp
  have hcell : ∀ j, (w.drew.alloc (.cells (bytesRow s gc) 5 ((bytesRow s gc).size, (bytesRow s gc).size + 1))).cell? ⟨w.heap.size, j, none⟩ = (bytesRow s gc)[j]? := fun j => World.cell?_alloc_mark w.drew _ 5 _ j
  refine ⟨_, _, hr, ⟨w.heap.size, gc, by rw [hlen], Nat.le_refl _, by simp, by omega, hcm, ?_, ?_⟩, (Below.refl _ _).drew.alloc (Nat.le_refl _) _⟩
  · intro j hj
    have hj' : j < s.size := by omega
    rw [hcell j]
    unfold bytesRow
    rw [Array.getElem?_append_left (by simpa using hj')]
    rw [Array.getElem?_map, Array.getElem?_eq_getElem (by simpa using hj')]
    simp
  · intro j hj
    rw [hcell j, Array.getElem?_eq_getElem (by rw [hsz]; exact hj)]
    exact ⟨rfl, frozen_new w.drew _ 5 _ j (.inr (by rw [hsz]; exact hj))⟩
end Go.Proofs.Ytnnhoobjnnjnhaa
