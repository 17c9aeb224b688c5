/- States as they lie in memory: what a list of frames, one of arrays, and a state, reads as. -/
import Derived.Test.YtijgonjnmibifaaGreatDoorIRow
namespace Go.Proofs.YtijgonjnmibifaaGreatDoor
open Go.RowKit

structure FrM where
  func : Int
  pc : Int
  locals : List Int
  stack : List Int
  deriving DecidableEq, Inhabited

structure StM where
  frames : List FrM
  heap : List (List Int)
  out : List Int
  fuel : Int
  done : Bool
  value : Int
  trap : Int
  deriving DecidableEq, Inhabited

/-- the slice v reads as these frames; its cells lie in no block below B -/
def FrRow (B : Nat) (w : World) (v : Value) (fs : List FrM) : Prop :=
  ∃ A cap, v = .slice A fs.length cap ∧ fs.length ≤ 9223372036854775807 ∧ ∀ i (h : i < fs.length), ∃ b off x y, A = some ⟨b, off, none⟩ ∧ B ≤ b ∧ b < w.heap.size ∧
    w.cell? ⟨b, off + i * 4, none⟩ = some (.int .i64 fs[i].func) ∧ w.cell? ⟨b, off + i * 4 + 1, none⟩ = some (.int .i64 fs[i].pc) ∧ w.cell? ⟨b, off + i * 4 + 2, none⟩ = some x ∧ w.cell? ⟨b, off + i * 4 + 3, none⟩ = some y ∧ IRow B w x fs[i].locals ∧ IRow B w y fs[i].stack

/-- the slice v reads as these arrays -/
def ArrRow (B : Nat) (w : World) (v : Value) (hs : List (List Int)) : Prop :=
  ∃ A cap, v = .slice A hs.length cap ∧ hs.length ≤ 9223372036854775807 ∧ ∀ i (h : i < hs.length), ∃ b off x, A = some ⟨b, off, none⟩ ∧ B ≤ b ∧ b < w.heap.size ∧ w.cell? ⟨b, off + i, none⟩ = some x ∧ IRow B w x hs[i]

/-- the three lists and four fields of a state -/
def StRow (B : Nat) (w : World) (x y z : Value) (s : StM) : Prop := FrRow B w x s.frames ∧ ArrRow B w y s.heap ∧ IRow B w z s.out

def stV (x y z : Value) (s : StM) : Value := .agg #[x, y, z, .int .i64 s.fuel, .bool s.done, .int .i64 s.value, .int .i64 s.trap]

theorem FrRow.kept {B : Nat} {w w' : World} {v : Value} {fs : List FrM} (h : FrRow B w v fs) (hs : w.heap.size ≤ w'.heap.size) (hb : ∀ b j, B ≤ b → b < w.heap.size → w'.cell? ⟨b, j, none⟩ = w.cell? ⟨b, j, none⟩) : FrRow B w' v fs := by
  obtain ⟨A, cap, rfl, hn, hc⟩ := h
  refine ⟨A, cap, rfl, hn, fun i hi => ?_⟩
  obtain ⟨b, off, x, y, rfl, hB, hlt, c0, c1, c2, c3, hx, hy⟩ := hc i hi
  exact ⟨b, off, x, y, rfl, hB, Nat.lt_of_lt_of_le hlt hs, by rw [hb _ _ hB hlt]; exact c0, by rw [hb _ _ hB hlt]; exact c1, by rw [hb _ _ hB hlt]; exact c2, by rw [hb _ _ hB hlt]; exact c3, hx.kept hs hb, hy.kept hs hb⟩

theorem ArrRow.kept {B : Nat} {w w' : World} {v : Value} {p : List (List Int)} (h : ArrRow B w v p) (hs : w.heap.size ≤ w'.heap.size) (hb : ∀ b j, B ≤ b → b < w.heap.size → w'.cell? ⟨b, j, none⟩ = w.cell? ⟨b, j, none⟩) : ArrRow B w' v p := by
  obtain ⟨A, cap, rfl, hn, hc⟩ := h
  refine ⟨A, cap, rfl, hn, fun i hi => ?_⟩
  obtain ⟨b, off, x, rfl, hB, hlt, c0, hx⟩ := hc i hi
  exact ⟨b, off, x, rfl, hB, Nat.lt_of_lt_of_le hlt hs, by rw [hb _ _ hB hlt]; exact c0, hx.kept hs hb⟩

theorem FrRow.below {B : Nat} {w w' : World} {v : Value} {fs : List FrM} (h : FrRow B w v fs) (hb : Below w.heap.size w w') : FrRow B w' v fs :=
  h.kept hb.size fun _ _ _ hl => hb.cell (by exact hl)
theorem ArrRow.below {B : Nat} {w w' : World} {v : Value} {p : List (List Int)} (h : ArrRow B w v p) (hb : Below w.heap.size w w') : ArrRow B w' v p :=
  h.kept hb.size fun _ _ _ hl => hb.cell (by exact hl)
theorem StRow.below {B : Nat} {w w' : World} {x y z : Value} {s : StM} (h : StRow B w x y z s) (hb : Below w.heap.size w w') : StRow B w' x y z s := ⟨h.1.below hb, h.2.1.below hb, h.2.2.below hb⟩

theorem FrRow.set {B : Nat} {w : World} {v : Value} {fs : List FrM} (h : FrRow B w v fs) {q : Addr} (hq : q.block < B) (u : Value) : FrRow B (w.setCell q u) v fs :=
  h.kept (by simp) fun b j hB _ => World.cell?_setCell_other _ _ _ _ (by intro e; rw [e] at hq; exact absurd hB (Nat.not_le_of_lt hq))
theorem ArrRow.set {B : Nat} {w : World} {v : Value} {fs : List (List Int)} (h : ArrRow B w v fs) {q : Addr} (hq : q.block < B) (u : Value) : ArrRow B (w.setCell q u) v fs :=
  h.kept (by simp) fun b j hB _ => World.cell?_setCell_other _ _ _ _ (by intro e; rw [e] at hq; exact absurd hB (Nat.not_le_of_lt hq))
theorem StRow.set {B : Nat} {w : World} {x y z : Value} {s : StM} (h : StRow B w x y z s) {q : Addr} (hq : q.block < B) (u : Value) : StRow B (w.setCell q u) x y z s := ⟨h.1.set hq u, h.2.1.set hq u, h.2.2.set hq u⟩

theorem FrRow.lower {B B' : Nat} {w : World} {v : Value} {fs : List FrM} (h : FrRow B w v fs) (hB : B' ≤ B) : FrRow B' w v fs := by
  obtain ⟨A, cap, rfl, hn, hc⟩ := h
  refine ⟨A, cap, rfl, hn, fun i hi => ?_⟩
  obtain ⟨b, off, x, y, rfl, h1, h2, h3, h4, h5, h6, hx, hy⟩ := hc i hi
  exact ⟨b, off, x, y, rfl, Nat.le_trans hB h1, h2, h3, h4, h5, h6, hx.lower hB, hy.lower hB⟩
theorem ArrRow.lower {B B' : Nat} {w : World} {v : Value} {fs : List (List Int)} (h : ArrRow B w v fs) (hB : B' ≤ B) : ArrRow B' w v fs := by
  obtain ⟨A, cap, rfl, hn, hc⟩ := h
  refine ⟨A, cap, rfl, hn, fun i hi => ?_⟩
  obtain ⟨b, off, x, rfl, h1, h2, h3, hx⟩ := hc i hi
  exact ⟨b, off, x, rfl, Nat.le_trans hB h1, h2, h3, hx.lower hB⟩
theorem StRow.lower {B B' : Nat} {w : World} {x y z : Value} {s : StM} (h : StRow B w x y z s) (hB : B' ≤ B) : StRow B' w x y z s := ⟨h.1.lower hB, h.2.1.lower hB, h.2.2.lower hB⟩

theorem FrRow.form {B : Nat} {w : World} {v : Value} {p : List FrM} (h : FrRow B w v p) : ∃ A cap, v = .slice A p.length cap := let ⟨A, cap, h, _⟩ := h; ⟨A, cap, h⟩
theorem ArrRow.form {B : Nat} {w : World} {v : Value} {p : List (List Int)} (h : ArrRow B w v p) : ∃ A cap, v = .slice A p.length cap := let ⟨A, cap, h, _⟩ := h; ⟨A, cap, h⟩
theorem FrRow.len {B : Nat} {w : World} {v : Value} {p : List FrM} (h : FrRow B w v p) : p.length ≤ 9223372036854775807 := let ⟨_, _, _, hn, _⟩ := h; hn
theorem ArrRow.len {B : Nat} {w : World} {v : Value} {p : List (List Int)} (h : ArrRow B w v p) : p.length ≤ 9223372036854775807 := let ⟨_, _, _, hn, _⟩ := h; hn

theorem FrRow.at {B : Nat} {w : World} {A : Option Addr} {n cap : Nat} {fs : List FrM} (h : FrRow B w (.slice A n cap) fs) (k : Nat) (hk : k < fs.length) :
    ∃ b off x y, A = some ⟨b, off, none⟩ ∧ b < w.heap.size ∧ w.cell? ⟨b, off + k * 4, none⟩ = some (.int .i64 fs[k].func) ∧ w.cell? ⟨b, off + k * 4 + 1, none⟩ = some (.int .i64 fs[k].pc) ∧ w.cell? ⟨b, off + k * 4 + 2, none⟩ = some x ∧ w.cell? ⟨b, off + k * 4 + 3, none⟩ = some y ∧ IRow B w x fs[k].locals ∧ IRow B w y fs[k].stack := by
  obtain ⟨A', cap', he, _, hc⟩ := h
  simp only [Value.slice.injEq] at he
  obtain ⟨rfl, _, rfl⟩ := he
  obtain ⟨b, off, x, y, h1, _, h2⟩ := hc k hk
  exact ⟨b, off, x, y, h1, h2⟩

theorem ArrRow.at {B : Nat} {w : World} {A : Option Addr} {n cap : Nat} {fs : List (List Int)} (h : ArrRow B w (.slice A n cap) fs) (k : Nat) (hk : k < fs.length) :
    ∃ b off x, A = some ⟨b, off, none⟩ ∧ b < w.heap.size ∧ w.cell? ⟨b, off + k, none⟩ = some x ∧ IRow B w x fs[k] := by
  obtain ⟨A', cap', he, _, hc⟩ := h
  simp only [Value.slice.injEq] at he
  obtain ⟨rfl, _, rfl⟩ := he
  obtain ⟨b, off, x, h1, _, h2⟩ := hc k hk
  exact ⟨b, off, x, h1, h2⟩

/-- how much it holds -/
def FrM.bulk (f : FrM) : Nat := f.locals.length + f.stack.length
def bulkF (fs : List FrM) : Nat := fs.length + (fs.map FrM.bulk).sum
def bulkH (hs : List (List Int)) : Nat := hs.length + (hs.map List.length).sum
def StM.bulk (s : StM) : Nat := bulkF s.frames + bulkH s.heap + s.out.length

theorem sum_le {α : Type} (g : α → Nat) (l : List α) (k : Nat) (h : k < l.length) : g l[k] ≤ (l.map g).sum := by
  have h1 : (l.map g).sum = ((l.take k).map g).sum + ((l.drop k).map g).sum := by
    conv => lhs; rw [← List.take_append_drop k l, List.map_append, List.sum_append]
  rw [List.drop_eq_getElem_cons h, List.map_cons, List.sum_cons] at h1
  omega
theorem sum_succ {α : Type} (g : α → Nat) (l : List α) (k : Nat) (h : k < l.length) : ((l.take (k + 1)).map g).sum = ((l.take k).map g).sum + g l[k] := by
  rw [List.take_succ_eq_append_getElem h, List.map_append, List.sum_append]
  simp
theorem sum_part {α : Type} (g : α → Nat) (l : List α) (k : Nat) : ((l.take k).map g).sum ≤ (l.map g).sum := by
  conv => rhs; rw [← List.take_append_drop k l, List.map_append, List.sum_append]
  omega
end Go.Proofs.YtijgonjnmibifaaGreatDoor
