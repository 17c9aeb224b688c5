/- A program's bytes, as plain lists. -/
import Derived.Test.YtfaameimocjaiaaDoorSum
import Derived.Test.YtfaameimocjaiaaDoorPutS
import Derived.Test.YtfaameimocjaiaaDoorHeightR
import Derived.Lib.AppendStr
namespace Go.Proofs.YtfaameimocjaiaaDoor
open Go.RowKit

/-- a number's bytes; those of several, of instructions, of a function, of a program, of its file -/
def num (n : Int) : List UInt8 := Lib.uvarint (Lib.zigzag n)
def nums (l : List Int) : List UInt8 := l.flatMap num
def insB (c : List (Int × Int)) : List UInt8 := c.flatMap fun i => nums [i.1, i.2]
def fnB (f : FnM) : List UInt8 := nums [f.args, f.locals, (f.code.length : Int)] ++ insB f.code
def prgB (p : List FnM) : List UInt8 := ([74, 49] ++ nums [(p.length : Int)]) ++ p.flatMap fnB
def fileB (p : List FnM) : List UInt8 := prgB p ++ nums [sumS ⟨(prgB p).toArray⟩]

theorem num_len {n : Int} (h : I64 n) : (num n).length ≤ 10 := Lib.uvarint_length64 (Lib.zigzag_lt h.1 h.2)

theorem nums_len (l : List Int) (h : ∀ z ∈ l, I64 z) : (nums l).length ≤ 10 * l.length := by
  induction l with
  | nil => simp [nums]
  | cons z l ih =>
    have h1 := num_len (h z (by simp))
    have h2 := ih (fun y hy => h y (by simp [hy]))
    simp only [nums, List.flatMap_cons, List.length_append, List.length_cons] at h2 ⊢
    omega

theorem nums_snoc (l : List Int) (z : Int) : nums (l ++ [z]) = nums l ++ num z := by simp [nums]

theorem insB_len (c : List (Int × Int)) (h : ∀ i ∈ c, I64 i.1 ∧ I64 i.2) : (insB c).length ≤ 20 * c.length := by
  induction c with
  | nil => simp [insB]
  | cons x c ih =>
    have h1 := nums_len [x.1, x.2] (fun z hz => by simp at hz; rcases hz with rfl | rfl; exact (h x (by simp)).1; exact (h x (by simp)).2)
    have h2 := ih (fun y hy => h y (by simp [hy]))
    simp only [insB, List.flatMap_cons, List.length_append, List.length_cons, List.length_nil] at h1 h2 ⊢
    omega

theorem insB_snoc (c : List (Int × Int)) (x : Int × Int) : insB (c ++ [x]) = insB c ++ nums [x.1, x.2] := by simp [insB]
theorem insB_take (c : List (Int × Int)) (k : Nat) (h : k < c.length) : insB (c.take (k + 1)) = insB (c.take k) ++ nums [c[k].1, c[k].2] := by
  rw [List.take_succ_eq_append_getElem h, insB_snoc]

theorem fnsB_take (p : List FnM) (k : Nat) (h : k < p.length) : (p.take (k + 1)).flatMap fnB = (p.take k).flatMap fnB ++ fnB p[k] := by
  rw [List.take_succ_eq_append_getElem h, List.flatMap_append]; simp

theorem fnB_len {f : FnM} (h : f.ok) (hc : f.code.length ≤ 60) : (fnB f).length ≤ 1230 := by
  have h1 := nums_len [f.args, f.locals, (f.code.length : Int)] (fun z hz => by simp at hz; rcases hz with rfl | rfl | rfl; exact h.1; exact h.2.1; unfold I64; omega)
  have h2 := insB_len f.code h.2.2
  simp only [fnB, List.length_append, List.length_cons, List.length_nil] at h1 ⊢
  omega

theorem fnsB_len (p : List FnM) (h : ∀ f ∈ p, f.ok ∧ f.code.length ≤ 60) : (p.flatMap fnB).length ≤ 1230 * p.length := by
  induction p with
  | nil => simp
  | cons x c ih =>
    have h1 := fnB_len (h x (by simp)).1 (h x (by simp)).2
    have h2 := ih (fun y hy => h y (by simp [hy]))
    simp only [List.flatMap_cons, List.length_append, List.length_cons] at h2 ⊢
    omega

/-- all that is no block of bytes stays, and all below B -/
structure KeepT (B : Nat) (w w' : World) : Prop where
  below : Below B w w'
  typed : ∀ (b : Nat) (C : Array Value) (t : TypeId) (fr : Nat × Nat), t ≠ 5 → w.heap[b]? = some (Obj.cells C t fr) → w'.heap[b]? = some (Obj.cells C t fr)

theorem KeepT.refl (B : Nat) (w : World) : KeepT B w w := ⟨Below.refl _ _, fun _ _ _ _ _ h => h⟩
theorem KeepT.trans {B : Nat} {a b c : World} (h : KeepT B a b) (k : KeepT B b c) : KeepT B a c := ⟨h.below.trans k.below, fun b C t fr ht hb => k.typed b C t fr ht (h.typed b C t fr ht hb)⟩
theorem KeepT.of_below {B : Nat} {w w' : World} (h : Below w.heap.size w w') (hB : B ≤ w.heap.size) : KeepT B w w' := ⟨h.mono hB, fun b C t fr _ hb => by rw [h.block b (Array.getElem?_eq_some_iff.1 hb).1]; exact hb⟩

/-- behind an append to a row of bytes of the call's own -/
theorem KeepT.grown {B : Nat} {w w' : World} {v : Value} {n : Nat} {xs : List Value} (ho : w.ownsRow B 5 1 v n xs) (hg : w.grownBy w' v.ownBlock) (hB : B ≤ w.heap.size) : KeepT B w w' := by
  refine ⟨(Below.refl _ _).grown hg hB (fun j hj => (ho.lt j hj).1), fun b C t fr ht hb => ?_⟩
  rw [hg.block b (Array.getElem?_eq_some_iff.1 hb).1 ?_]
  · exact hb
  · intro e
    rcases ho.2 with ⟨rfl, _⟩ | ⟨g, cap, cur, rfl, _, hh, _⟩
    · simp [Value.ownBlock] at e
    · simp only [Value.ownBlock, Option.some.injEq] at e
      subst e
      rw [hb] at hh
      simp only [Option.some.injEq, Obj.cells.injEq] at hh
      exact ht hh.2.1

/-- a row of bytes of the call's own -/
def Own8 (B : Nat) (w : World) (v : Value) (l : List UInt8) : Prop := w.ownsRow B 5 1 v l.length (Lib.byteCells l)
end Go.Proofs.YtfaameimocjaiaaDoor
