/- A slice of numbers in memory that is the call's own, up to its capacity. -/
import Derived.Test.YtijgonjnmibifaaGreatDoorIRow
import Derived.Laws.IdiomCopy
import Derived.Deep.MidRow
namespace Go.Proofs.YtijgonjnmibifaaGreatDoor
open Go.RowKit

structure OwnAt (B : Nat) (w : World) (b off cap : Nat) (zs : List Int) : Prop where
  low : B ≤ b
  lt : b < w.heap.size
  room : zs.length ≤ cap
  top : cap ≤ maxLen
  cells : ∀ j (h : j < zs.length), w.cell? ⟨b, off + j, none⟩ = some (.int .i64 zs[j])
  spare : ∀ j, j < cap → (w.cell? ⟨b, off + j, none⟩).isSome = true ∧ w.frozen? ⟨b, off + j, none⟩ = false

theorem OwnAt.kept {B b off cap : Nat} {w w' : World} {zs : List Int} (h : OwnAt B w b off cap zs) (hs : w.heap.size ≤ w'.heap.size) (hb : w'.heap[b]? = w.heap[b]?) : OwnAt B w' b off cap zs :=
  ⟨h.low, Nat.lt_of_lt_of_le h.lt hs, h.room, h.top, fun j hj => by rw [World.cell?_of_block (w := w) (by exact hb)]; exact h.cells j hj,
    fun j hj => by rw [World.cell?_of_block (w := w) (by exact hb), World.frozen?_of_block (w := w) (by exact hb)]; exact h.spare j hj⟩

theorem OwnAt.below {B b off cap : Nat} {w w' : World} {zs : List Int} (h : OwnAt B w b off cap zs) (hb : Below w.heap.size w w') : OwnAt B w' b off cap zs := h.kept hb.size (hb.block b h.lt)

theorem OwnAt.grown {B b off cap : Nat} {w w' : World} {zs : List Int} {row : Option Nat} (h : OwnAt B w b off cap zs) (hg : w.grownBy w' row) (hne : some b ≠ row) : OwnAt B w' b off cap zs := h.kept hg.size (hg.block b h.lt hne)

theorem OwnAt.setFar {B b off cap : Nat} {w : World} {zs : List Int} (h : OwnAt B w b off cap zs) (q : Addr) (u : Value) (hq : b ≠ q.block) : OwnAt B (w.setCell q u) b off cap zs := h.kept (by simp) (Below.heap_setCell w q u b hq)

/-- the slice without its first one -/
theorem OwnAt.tail {B b off cap : Nat} {w : World} {z : Int} {zs : List Int} (h : OwnAt B w b off cap (z :: zs)) : OwnAt B w b (off + 1) (cap - 1) zs := by
  have hr := h.room
  simp only [List.length_cons] at hr
  have ht := h.top
  refine ⟨h.low, h.lt, by omega, by omega, fun j hj => ?_, fun j hj => ?_⟩
  · have := h.cells (j + 1) (by simp; omega)
    rw [show off + 1 + j = off + (j + 1) by omega]
    simpa using this
  · rw [show off + 1 + j = off + (j + 1) by omega]
    exact h.spare (j + 1) (by omega)

theorem OwnAt.fresh {B N cap : Nat} {W : World} {C : Array Value} {zs : List Int} {t : TypeId} (hN : W.heap[N]? = some (.cells C t (0, 0))) (hB : B ≤ N) (hc : C.size = cap) (ht : cap ≤ maxLen) (hr : zs.length ≤ cap)
    (hz : ∀ j (h : j < zs.length), C[j]? = some (.int .i64 zs[j])) : OwnAt B W N 0 cap zs := by
  have hcell : ∀ j, W.cell? ⟨N, 0 + j, none⟩ = C[j]? := fun j => by simp [World.cell?, hN]
  refine ⟨hB, (Array.getElem?_eq_some_iff.1 hN).1, hr, ht, fun j hj => by rw [hcell]; exact hz j hj, fun j hj => ⟨?_, ?_⟩⟩
  · rw [hcell, Array.getElem?_eq_getElem (by omega)]; rfl
  · simp [World.frozen?, hN]

theorem grown_setCells (b : Nat) : ∀ (vs : List Value) (o : Nat) (w : World), w.grownBy (w.setCells b o vs) (some b)
  | [], _, w => World.grownBy.refl w _
  | v :: r, o, w => by
    have h1 : w.grownBy (w.setCell ⟨b, o, none⟩ v) (some b) := ⟨rfl, rfl, rfl, by simp, fun k _ hk => Below.heap_setCell w _ _ k (fun e => hk (by rw [e]))⟩
    obtain ⟨a1, a2, a3, a4, a5⟩ := h1
    obtain ⟨b1, b2, b3, b4, b5⟩ := grown_setCells b r (o + 1) (w.setCell ⟨b, o, none⟩ v)
    exact ⟨b1.trans a1, b2.trans a2, b3.trans a3, Nat.le_trans a4 b4, fun k hk hne => (b5 k (Nat.lt_of_lt_of_le hk a4) hne).trans (a5 k hk hne)⟩

theorem grown_trans {a b c : World} {row : Option Nat} (h : a.grownBy b row) (k : b.grownBy c row) : a.grownBy c row :=
  ⟨k.os.trans h.os, k.tape.trans h.tape, k.output.trans h.output, Nat.le_trans h.size k.size, fun i hi hne => (k.block i (Nat.lt_of_lt_of_le hi h.size) hne).trans (h.block i hi hne)⟩

theorem grown_drew (w : World) (row : Option Nat) : w.grownBy w.drew row := ⟨rfl, rfl, rfl, Nat.le_refl _, fun _ _ _ => rfl⟩

/-- new blocks alone, and what is done to them -/
theorem grown_of_below {w w' : World} {row : Option Nat} (h : Below w.heap.size w w') : w.grownBy w' row := ⟨h.os, h.tape, h.output, h.size, fun k hk _ => h.block k hk⟩

/-- numbers put into a row of the call's own, wherever it has room -/
theorem OwnAt.put {B b off cap : Nat} {w : World} {zs : List Int} (h : OwnAt B w b off cap zs) (o : Nat) (ys : List Int) (ho : o + ys.length ≤ cap) (zs' : List Int) (hr : zs'.length ≤ cap)
    (hz : ∀ j (hj : j < zs'.length), (o ≤ j ∧ j < o + ys.length ∧ ys[j - o]? = some zs'[j]) ∨ ((j < o ∨ o + ys.length ≤ j) ∧ zs[j]? = some zs'[j])) :
    OwnAt B (w.setCells b (off + o) (ints ys)) b off cap zs' := by
  have hlen : (ints ys).length = ys.length := ints_length ys
  have hsp : ∀ j, j < (ints ys).length → (w.cell? ⟨b, off + o + j, none⟩).isSome = true := fun j hj => by
    rw [Nat.add_assoc]; exact (h.spare (o + j) (by omega)).1
  refine ⟨h.low, Nat.lt_of_lt_of_le h.lt (grown_setCells _ _ _ _).size, hr, h.top, fun j hj => ?_, fun j hj => ⟨?_, ?_⟩⟩
  · rcases hz j hj with ⟨h1, h2, h3⟩ | ⟨h1, h2⟩
    · have := World.cell?_setCells_in b (ints ys) (off + o) w hsp (j - o) (by omega)
      rw [show off + o + (j - o) = off + j by omega] at this
      rw [this]
      have h4 : j - o < ys.length := by omega
      rw [List.getElem?_eq_getElem h4] at h3
      simp only [Option.some.injEq] at h3
      simp [ints, h3]
    · rw [World.cell?_setCells_out b _ _ _ _ (fun _ _ => by show off + j < off + o ∨ off + o + (ints ys).length ≤ off + j; omega)]
      obtain ⟨h4, h5⟩ := List.getElem?_eq_some_iff.1 h2
      rw [h.cells j h4, h5]
  · exact World.isSome_setCells b _ _ _ _ (h.spare j hj).1
  · rw [World.frozen?_setCells]; exact (h.spare j hj).2

theorem OwnAt.irow {B b off cap : Nat} {w : World} {zs : List Int} (h : OwnAt B w b off cap zs) : IRow B w (.slice (some ⟨b, off, none⟩) zs.length cap) zs :=
  ⟨_, cap, rfl, by have := h.room; have := h.top; unfold maxLen at this; omega, fun i hi => ⟨b, off, rfl, h.low, h.lt, h.cells i hi⟩⟩
end Go.Proofs.YtijgonjnmibifaaGreatDoor
