/- A program's bytes: what the walks of impl.FileBytes and spec.FileBytes want. -/
import Derived.Test.YtfaameimocjaiaaDoorAppN
import Derived.Test.YtfaameimocjaiaaDoorVerI
namespace Go.Proofs.YtfaameimocjaiaaDoor
open Go.RowKit

/-- the bytes that are told of a program -/
def FbTold (p : List FnM) (w w' : World) (e : Ending) : Prop := ∃ t, e = .returned (.string t) ∧ Below w.heap.size w w' ∧ ((RightP p ∧ t = ⟨(fileB p).toArray⟩) ∨ (¬ RightP p ∧ t = ⟨#[]⟩))

theorem RightP.small {p : List FnM} (h : RightP p) : 1 ≤ p.length ∧ p.length ≤ 6 ∧ ∀ f ∈ p, f.code.length ≤ 60 := by
  refine ⟨h.all.1, h.all.2.1, fun f hf => ?_⟩
  obtain ⟨k, hk, rfl⟩ := List.getElem_of_mem hf
  have := ((h.all.2.2 k hk).well rfl).1
  rw [fnAt_nat p k hk] at this
  simp [formOk] at this
  omega

theorem Own8.lit (w : World) (l : List UInt8) (B : Nat) (hB : B ≤ w.heap.size) (hl : l.length ≤ 1000) : Own8 B (w.alloc (.cells (Lib.byteCells l).toArray 5)) (.slice (some ⟨w.heap.size, 0, none⟩) l.length l.length) l := by
  have h := World.ownsRow_lit (base := B) (e := 5) (size := 1) w (Lib.byteCells l).toArray l.length hB (by unfold maxLen; omega) (by simp [Lib.byteCells])
  simpa [Own8] using h

theorem heap_new (w : World) (C : Array Value) (t : TypeId) : (w.alloc (.cells C t)).heap[w.heap.size]? = some (Obj.cells C t (0, 0)) := heap_alloc_new w _

/-- numbers that were just laid -/
theorem lit64 (w : World) (zs : List Int) : (w.alloc (.cells (ints zs).toArray 2)).heap[w.heap.size]? = some (Obj.cells (ints zs).toArray 2 (0, 0)) ∧ ∀ i (h : i < zs.length), (w.alloc (.cells (ints zs).toArray 2)).cell? ⟨w.heap.size, i, none⟩ = some (.int .i64 zs[i]) := by
  refine ⟨heap_alloc_new w _, fun i h => ?_⟩
  rw [World.cell?_alloc_mark]
  simp [ints, h]

/-- numbers put behind bytes: they are laid first -/
theorem appendLit {B : Nat} (y : Value) (l : List UInt8) (zs : List Int) (w : World) (capn : Nat) (ho : Own8 B w y l) (hI : ∀ z ∈ zs, I64 z) (hlen : l.length ≤ 100000) (hzl : zs.length ≤ 3) (hB : B ≤ w.heap.size) :
    Calls Tryd.prog 30 #[y, .slice (some ⟨w.heap.size, 0, none⟩) zs.length capn] (w.alloc (.cells (ints zs).toArray 2)) fun e w' => ∃ y', e = .returned y' ∧ Own8 B w' y' (l ++ nums zs) ∧ KeepT B w w' := by
  have hal : Below w.heap.size w (w.alloc (.cells (ints zs).toArray 2)) := (Below.refl _ _).alloc (Nat.le_refl _) _
  obtain ⟨h1, h2⟩ := lit64 w zs
  refine (implAppend y l w.heap.size capn _ zs _ (ho.keep hal) h1 h2 hI hlen hzl (by simp; omega)).mono ?_
  rintro e w' ⟨y', rfl, ho', hk⟩
  exact ⟨y', rfl, ho', (KeepT.of_below hal hB).trans hk⟩

theorem own8_text {B : Nat} {w : World} {v : Value} {l : List UInt8} (h : Own8 B w v l) (hp : 0 < l.length) : (convert 55 9 v).run Tryd.prog w = .ok (.string ⟨l.toArray⟩) w := by
  obtain ⟨g, cap, e, hc⟩ := text_own h rfl hp
  rw [e]; exact hc

theorem own_mark (w : World) : Own8 w.heap.size (w.alloc (.cells #[.int .u8 74, .int .u8 49] 5)) (.slice (some ⟨w.heap.size, 0, none⟩) 2 2) [74, 49] := by
  have h := Own8.lit w [74, 49] w.heap.size (Nat.le_refl _) (by simp)
  simpa [Lib.byteCells] using h
end Go.Proofs.YtfaameimocjaiaaDoor
