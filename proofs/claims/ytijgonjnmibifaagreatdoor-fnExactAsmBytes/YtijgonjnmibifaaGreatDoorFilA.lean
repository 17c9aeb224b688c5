/- A program's bytes, as plain lists. impl.appendNums. A program's bytes: what the walks of impl.FileBytes and spec.FileBytes want. -/
import Derived.Test.YtijgonjnmibifaaGreatDoorPutA
import Derived.Test.YtijgonjnmibifaaGreatDoorHeightR
import Derived.Lib.AppendStr
import Derived.Test.YtijgonjnmibifaaGreatDoorIRow
import Derived.Test.YtijgonjnmibifaaGreatDoorVerI
namespace Go.Proofs.YtijgonjnmibifaaGreatDoor
open Go.RowKit

/-- a number's bytes; those of several, of instructions, of a function, of a program, of its file -/
def num (n : Int) : List UInt8 := Lib.uvarint (Lib.zigzag n)
def nums (l : List Int) : List UInt8 := l.flatMap num
def insB (c : List (Int × Int)) : List UInt8 := c.flatMap fun i => nums [i.1, i.2]
def fnB (f : FnM) : List UInt8 := nums [f.args, f.locals, (f.code.length : Int)] ++ insB f.code
def prgB (p : List FnM) : List UInt8 := ([74, 49] ++ nums [(p.length : Int)]) ++ p.flatMap fnB
def fileB (p : List FnM) : List UInt8 := prgB p ++ nums [sumS ⟨(prgB p).toArray⟩]

theorem num_len {n : Int} (h : I64 n) : (num n).length ≤ 10 := Lib.uvarint_length64 (Lib.zigzag_lt h.1 h.2)

theorem nums_len (l : List Int) (h : ∀ z ∈ l, I64 z) : (nums l).length ≤ 10 * l.length := by
  induction l with
  | nil => simp [nums]
  | cons z l ih =>
    have h1 := num_len (h z (by simp))
    have h2 := ih (fun y hy => h y (by simp [hy]))
    simp only [nums, List.flatMap_cons, List.length_append, List.length_cons] at h2 ⊢
    omega

theorem nums_snoc (l : List Int) (z : Int) : nums (l ++ [z]) = nums l ++ num z := by simp [nums]

theorem insB_len (c : List (Int × Int)) (h : ∀ i ∈ c, I64 i.1 ∧ I64 i.2) : (insB c).length ≤ 20 * c.length := by
  induction c with
  | nil => simp [insB]
  | cons x c ih =>
    have h1 := nums_len [x.1, x.2] (fun z hz => by simp at hz; rcases hz with rfl | rfl; exact (h x (by simp)).1; exact (h x (by simp)).2)
    have h2 := ih (fun y hy => h y (by simp [hy]))
    simp only [insB, List.flatMap_cons, List.length_append, List.length_cons, List.length_nil] at h1 h2 ⊢
    omega

theorem insB_snoc (c : List (Int × Int)) (x : Int × Int) : insB (c ++ [x]) = insB c ++ nums [x.1, x.2] := by simp [insB]
theorem insB_take (c : List (Int × Int)) (k : Nat) (h : k < c.length) : insB (c.take (k + 1)) = insB (c.take k) ++ nums [c[k].1, c[k].2] := by
  rw [List.take_succ_eq_append_getElem h, insB_snoc]

theorem fnsB_take (p : List FnM) (k : Nat) (h : k < p.length) : (p.take (k + 1)).flatMap fnB = (p.take k).flatMap fnB ++ fnB p[k] := by
  rw [List.take_succ_eq_append_getElem h, List.flatMap_append]; simp

theorem fnB_len {f : FnM} (h : f.ok) (hc : f.code.length ≤ 60) : (fnB f).length ≤ 1230 := by
  have h1 := nums_len [f.args, f.locals, (f.code.length : Int)] (fun z hz => by simp at hz; rcases hz with rfl | rfl | rfl; exact h.1; exact h.2.1; unfold I64; omega)
  have h2 := insB_len f.code h.2.2
  simp only [fnB, List.length_append, List.length_cons, List.length_nil] at h1 ⊢
  omega

theorem fnsB_len (p : List FnM) (h : ∀ f ∈ p, f.ok ∧ f.code.length ≤ 60) : (p.flatMap fnB).length ≤ 1230 * p.length := by
  induction p with
  | nil => simp
  | cons x c ih =>
    have h1 := fnB_len (h x (by simp)).1 (h x (by simp)).2
    have h2 := ih (fun y hy => h y (by simp [hy]))
    simp only [List.flatMap_cons, List.length_append, List.length_cons] at h2 ⊢
    omega

/-- all that is no block of bytes stays, and all below B -/
structure KeepT (B : Nat) (w w' : World) : Prop where
  below : Below B w w'
  typed : ∀ (b : Nat) (C : Array Value) (t : TypeId) (fr : Nat × Nat), t ≠ 5 → w.heap[b]? = some (Obj.cells C t fr) → w'.heap[b]? = some (Obj.cells C t fr)

theorem KeepT.refl (B : Nat) (w : World) : KeepT B w w := ⟨Below.refl _ _, fun _ _ _ _ _ h => h⟩
theorem KeepT.trans {B : Nat} {a b c : World} (h : KeepT B a b) (k : KeepT B b c) : KeepT B a c := ⟨h.below.trans k.below, fun b C t fr ht hb => k.typed b C t fr ht (h.typed b C t fr ht hb)⟩
theorem KeepT.of_below {B : Nat} {w w' : World} (h : Below w.heap.size w w') (hB : B ≤ w.heap.size) : KeepT B w w' := ⟨h.mono hB, fun b C t fr _ hb => by rw [h.block b (Array.getElem?_eq_some_iff.1 hb).1]; exact hb⟩

/-- behind an append to a row of bytes of the call's own -/
theorem KeepT.grown {B : Nat} {w w' : World} {v : Value} {n : Nat} {xs : List Value} (ho : w.ownsRow B 5 1 v n xs) (hg : w.grownBy w' v.ownBlock) (hB : B ≤ w.heap.size) : KeepT B w w' := by
  refine ⟨(Below.refl _ _).grown hg hB (fun j hj => (ho.lt j hj).1), fun b C t fr ht hb => ?_⟩
  rw [hg.block b (Array.getElem?_eq_some_iff.1 hb).1 ?_]
  · exact hb
  · intro e
    rcases ho.2 with ⟨rfl, _⟩ | ⟨g, cap, cur, rfl, _, hh, _⟩
    · simp [Value.ownBlock] at e
    · simp only [Value.ownBlock, Option.some.injEq] at e
      subst e
      rw [hb] at hh
      simp only [Option.some.injEq, Obj.cells.injEq] at hh
      exact ht hh.2.1

/-- a row of bytes of the call's own -/
def Own8 (B : Nat) (w : World) (v : Value) (l : List UInt8) : Prop := w.ownsRow B 5 1 v l.length (Lib.byteCells l)
end Go.Proofs.YtijgonjnmibifaaGreatDoor

namespace Go.Proofs.YtijgonjnmibifaaGreatDoor
open Go.RowKit

theorem strCells_mk (l : List UInt8) : Lib.strCells ⟨l.toArray⟩ = Lib.byteCells l := by simp [Lib.strCells, Lib.byteCells]
theorem byteCells_app (l m : List UInt8) : Lib.byteCells (l ++ m) = Lib.byteCells l ++ Lib.byteCells m := by simp [Lib.byteCells]

theorem KeepT.cell {B : Nat} {w w' : World} (h : KeepT B w w') {b : Nat} {C : Array Value} {t : TypeId} {fr : Nat × Nat} (hb : w.heap[b]? = some (Obj.cells C t fr)) (ht : t ≠ 5) (j : Nat) : w'.cell? ⟨b, j, none⟩ = w.cell? ⟨b, j, none⟩ :=
  World.cell?_of_block (w := w) (by rw [h.typed b C t fr ht hb]; exact hb.symm)

theorem Own8.keep {B : Nat} {w w' : World} {v : Value} {l : List UInt8} (h : Own8 B w v l) (hb : Below w.heap.size w w') : Own8 B w' v l :=
  World.ownsRow.kept (row := none) h ⟨hb.os, hb.tape, hb.output, hb.size, fun k hk _ => hb.block k hk⟩ (by cases v.ownBlock <;> simp)

theorem Own8.form {B : Nat} {w : World} {v : Value} {l : List UInt8} (h : Own8 B w v l) : ∃ A cap, v = .slice A l.length cap := by
  rcases h.2 with ⟨rfl, h0⟩ | ⟨g, cap, _, rfl, _⟩
  · exact ⟨none, 0, by rw [h0]⟩
  · exact ⟨_, _, rfl⟩

set_option maxRecDepth 100000 in
set_option maxHeartbeats 1600000 in
theorem implAppend {B : Nat} (y : Value) (l : List UInt8) (bn capn : Nat) (C : Array Value) (zs : List Int) (w : World) (ho : Own8 B w y l) (hC : w.heap[bn]? = some (Obj.cells C 2 (0, 0))) (hz : ∀ i (h : i < zs.length), w.cell? ⟨bn, i, none⟩ = some (.int .i64 zs[i]))
    (hI : ∀ z ∈ zs, I64 z) (hlen : l.length ≤ 100000) (hzl : zs.length ≤ 3) (hB : B ≤ w.heap.size) :
    Calls Tryz.prog 29 #[y, .slice (some ⟨bn, 0, none⟩) zs.length capn] w fun e w' => ∃ y', e = .returned y' ∧ Own8 B w' y' (l ++ nums zs) ∧ KeepT B w w' := by
  have Ho : Hid (Own8 B w y l) := ho
  have HC : Hid (w.heap[bn]? = some (Obj.cells C 2 (0, 0))) := hC
  have Hz : Hid (∀ i (h : i < zs.length), w.cell? ⟨bn, i, none⟩ = some (.int .i64 zs[i])) := hz
  have HI : Hid (∀ z ∈ zs, I64 z) := hI
  obtain ⟨i0, hi, hz0, hz1, hz2⟩ := info_parts Tryz.infoU8
  obtain ⟨A, cap, rfl⟩ := ho.form
  clear ho hC hz hI
  go_enter Tryz.func29, Tryz.ntmps29
  go_wp2_with fail
  go_loopg [0, 9] (zs.length) (fun g y i wr => ∃ q : Nat, q ≤ zs.length ∧ i = .int .i64 q ∧ zs.length ≤ q + g ∧ (∃ m, m = l ++ nums (zs.take q) ∧ Own8 B wr y m) ∧ KeepT B w wr)
  case atStart => exact ⟨0, Nat.zero_le _, rfl, by omega, ⟨l, by simp [nums], Ho.out⟩, KeepT.refl _ _⟩
  case round =>
    obtain ⟨q, hq, rfl, hqg, ⟨m, hm, ho⟩, hk⟩ := hrel
    have Hm : Hid (m = l ++ nums (zs.take q)) := hm
    have O1 : Hid (Own8 B wr u0 m) := ho
    have K1 : Hid (KeepT B w wr) := hk
    obtain ⟨A1, cap1, rfl⟩ := ho.form
    have hnl := nums_len (zs.take q) (fun z hz => HI.out z (List.mem_of_mem_take hz))
    have htl : m.length ≤ 100030 := by
      have : (zs.take q).length ≤ 3 := by simp; omega
      rw [hm, List.length_append]; omega
    clear ho hk hnl hm
    by_cases hql : q < zs.length
    · obtain ⟨z, hzq⟩ : ∃ z, z = zs[q] := ⟨_, rfl⟩
      have c0 : wr.cell? ⟨bn, q, none⟩ = some (.int .i64 z) := by rw [K1.out.cell HC.out (by decide), Hz.out q hql, hzq]
      have hIz : I64 z := by rw [hzq]; exact HI.out _ (List.getElem_mem hql)
      have Hzq : Hid (z = zs[q]) := hzq
      have hql' : (q : Int) < zs.length := by omega
      clear hzq
      go_wp2_with fail
      refine (implPut z _ hIz.1 hIz.2).mono ?_
      rintro e w2 ⟨rfl, hb2⟩
      have O2 : Hid (Own8 B w2 (.slice A1 m.length cap1) m) := O1.out.keep hb2
      have hBr : B ≤ wr.heap.size := Nat.le_trans hB K1.out.below.size
      have K2 : Hid (KeepT B w w2) := K1.out.trans (KeepT.of_below hb2 hBr)
      have hB2 : B ≤ w2.heap.size := Nat.le_trans hBr hb2.size
      have hnz : (num z).length ≤ 10 := num_len hIz
      have hsz : (⟨(Lib.uvarint (Lib.zigzag z)).toArray⟩ : ByteArray).size = (num z).length := by simp [ByteArray.size, num]
      clear hb2 O1 K1 c0
      go_wp2_with (at_builtin; refine Lib.wpList_append_own_string _ rfl _ _ 55 9 rfl B 5 i0 Tryz.underlying55 Tryz.underlying9 hi hz0 hz1 hz2 _ _ _ rfl O2.out _ rfl ?c1 ?c2 ?c3 ?_)
      case c1 => rw [hsz]; unfold maxLen; omega
      case c2 => rw [hsz]; omega
      case c3 => exact hB2
      intro v' w3 hown hg hnil
      have O3 : Hid (Own8 B w3 v' (l ++ nums (zs.take (q + 1)))) := by
        show w3.ownsRow B 5 1 v' _ _
        rw [List.take_succ_eq_append_getElem hql, nums_snoc, ← Hzq.out, ← List.append_assoc, ← Hm.out, byteCells_app, List.length_append]
        rw [strCells_mk] at hown
        exact hown
      have K3 : Hid (KeepT B w w3) := K2.out.trans (KeepT.grown O2.out hg hB2)
      clear hown hg hnil
      go_wp2_with fail
      go_roundg (gk - 1)
      case measure => omega
      case rel => exact ⟨q + 1, by omega, by go_num, by omega, ⟨_, rfl, O3.out⟩, K3.out⟩
    · have hqe : q = zs.length := by omega
      subst hqe
      go_wp2_with fail
      go_ret
      have e : m = l ++ nums zs := by rw [Hm.out, List.take_length]
      exact ⟨_, rfl, e ▸ O1.out, K1.out⟩
end Go.Proofs.YtijgonjnmibifaaGreatDoor

namespace Go.Proofs.YtijgonjnmibifaaGreatDoor
open Go.RowKit

/-- the bytes that are told of a program -/
def FbTold (p : List FnM) (w w' : World) (e : Ending) : Prop := ∃ t, e = .returned (.string t) ∧ Below w.heap.size w w' ∧ ((RightP p ∧ t = ⟨(fileB p).toArray⟩) ∨ (¬ RightP p ∧ t = ⟨#[]⟩))

theorem RightP.small {p : List FnM} (h : RightP p) : 1 ≤ p.length ∧ p.length ≤ 6 ∧ ∀ f ∈ p, f.code.length ≤ 60 := by
  refine ⟨h.all.1, h.all.2.1, fun f hf => ?_⟩
  obtain ⟨k, hk, rfl⟩ := List.getElem_of_mem hf
  have := ((h.all.2.2 k hk).well rfl).1
  rw [fnAt_nat p k hk] at this
  simp [formOk] at this
  omega

theorem Own8.lit (w : World) (l : List UInt8) (B : Nat) (hB : B ≤ w.heap.size) (hl : l.length ≤ 1000) : Own8 B (w.alloc (.cells (Lib.byteCells l).toArray 5)) (.slice (some ⟨w.heap.size, 0, none⟩) l.length l.length) l := by
  have h := World.ownsRow_lit (base := B) (e := 5) (size := 1) w (Lib.byteCells l).toArray l.length hB (by unfold maxLen; omega) (by simp [Lib.byteCells])
  simpa [Own8] using h

theorem heap_new (w : World) (C : Array Value) (t : TypeId) : (w.alloc (.cells C t)).heap[w.heap.size]? = some (Obj.cells C t (0, 0)) := heap_alloc_new w _

/-- numbers that were just laid -/
theorem lit64 (w : World) (zs : List Int) : (w.alloc (.cells (ints zs).toArray 2)).heap[w.heap.size]? = some (Obj.cells (ints zs).toArray 2 (0, 0)) ∧ ∀ i (h : i < zs.length), (w.alloc (.cells (ints zs).toArray 2)).cell? ⟨w.heap.size, i, none⟩ = some (.int .i64 zs[i]) := by
  refine ⟨heap_alloc_new w _, fun i h => ?_⟩
  rw [World.cell?_alloc_mark]
  simp [ints, h]

/-- numbers put behind bytes: they are laid first -/
theorem appendLit {B : Nat} (y : Value) (l : List UInt8) (zs : List Int) (w : World) (capn : Nat) (ho : Own8 B w y l) (hI : ∀ z ∈ zs, I64 z) (hlen : l.length ≤ 100000) (hzl : zs.length ≤ 3) (hB : B ≤ w.heap.size) :
    Calls Tryz.prog 29 #[y, .slice (some ⟨w.heap.size, 0, none⟩) zs.length capn] (w.alloc (.cells (ints zs).toArray 2)) fun e w' => ∃ y', e = .returned y' ∧ Own8 B w' y' (l ++ nums zs) ∧ KeepT B w w' := by
  have hal : Below w.heap.size w (w.alloc (.cells (ints zs).toArray 2)) := (Below.refl _ _).alloc (Nat.le_refl _) _
  obtain ⟨h1, h2⟩ := lit64 w zs
  refine (implAppend y l w.heap.size capn _ zs _ (ho.keep hal) h1 h2 hI hlen hzl (by simp; omega)).mono ?_
  rintro e w' ⟨y', rfl, ho', hk⟩
  exact ⟨y', rfl, ho', (KeepT.of_below hal hB).trans hk⟩

theorem own8_text {B : Nat} {w : World} {v : Value} {l : List UInt8} (h : Own8 B w v l) (hp : 0 < l.length) : (convert 55 9 v).run Tryz.prog w = .ok (.string ⟨l.toArray⟩) w := by
  obtain ⟨g, cap, e, hc⟩ := text_own h rfl hp
  rw [e]; exact hc

theorem own_mark (w : World) : Own8 w.heap.size (w.alloc (.cells #[.int .u8 74, .int .u8 49] 5)) (.slice (some ⟨w.heap.size, 0, none⟩) 2 2) [74, 49] := by
  have h := Own8.lit w [74, 49] w.heap.size (Nat.le_refl _) (by simp)
  simpa [Lib.byteCells] using h
end Go.Proofs.YtijgonjnmibifaaGreatDoor
