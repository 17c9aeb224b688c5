/- Code of registers as it lies in memory: what a list of moves, of Vals, of instructions, of maps, and code of registers reads as. -/
import Derived.Test.YtijgonjnmibifaaGreatDoorSt
namespace Go.Proofs.YtijgonjnmibifaaGreatDoor
open Go.RowKit

structure MvM where
  to : Int
  kind : Int
  n : Int
  deriving DecidableEq, Inhabited

structure AiM where
  pre : List MvM
  op : Int
  to : Int
  l : List (Int × Int)
  t : Int
  deriving DecidableEq, Inhabited

structure AsM where
  func : Int
  code : List AiM
  maps : List (List (Int × Int))
  deriving DecidableEq, Inhabited

/-- the slice v reads as these moves; its cells lie in no block below B (a list of Vals: InsRow) -/
def MvRow (B : Nat) (w : World) (v : Value) (c : List MvM) : Prop :=
  ∃ A cap, v = .slice A c.length cap ∧ c.length ≤ 9223372036854775807 ∧ ∀ i (h : i < c.length), ∃ b off, A = some ⟨b, off, none⟩ ∧ B ≤ b ∧ b < w.heap.size ∧
    w.cell? ⟨b, off + i * 3, none⟩ = some (.int .i64 c[i].to) ∧ w.cell? ⟨b, off + i * 3 + 1, none⟩ = some (.int .i64 c[i].kind) ∧ w.cell? ⟨b, off + i * 3 + 2, none⟩ = some (.int .i64 c[i].n)

/-- the slice v reads as these instructions -/
def AiRow (B : Nat) (w : World) (v : Value) (c : List AiM) : Prop :=
  ∃ A cap, v = .slice A c.length cap ∧ c.length ≤ 9223372036854775807 ∧ ∀ i (h : i < c.length), ∃ b off x y, A = some ⟨b, off, none⟩ ∧ B ≤ b ∧ b < w.heap.size ∧
    w.cell? ⟨b, off + i * 5, none⟩ = some x ∧ w.cell? ⟨b, off + i * 5 + 1, none⟩ = some (.int .i64 c[i].op) ∧ w.cell? ⟨b, off + i * 5 + 2, none⟩ = some (.int .i64 c[i].to) ∧ w.cell? ⟨b, off + i * 5 + 3, none⟩ = some y ∧ w.cell? ⟨b, off + i * 5 + 4, none⟩ = some (.int .i64 c[i].t) ∧ MvRow B w x c[i].pre ∧ InsRow B w y c[i].l

/-- the slice v reads as these maps -/
def MapsRow (B : Nat) (w : World) (v : Value) (hs : List (List (Int × Int))) : Prop :=
  ∃ A cap, v = .slice A hs.length cap ∧ hs.length ≤ 9223372036854775807 ∧ ∀ i (h : i < hs.length), ∃ b off x, A = some ⟨b, off, none⟩ ∧ B ≤ b ∧ b < w.heap.size ∧ w.cell? ⟨b, off + i, none⟩ = some x ∧ InsRow B w x hs[i]

def AsRow (B : Nat) (w : World) (x y : Value) (a : AsM) : Prop := AiRow B w x a.code ∧ MapsRow B w y a.maps
def asV (x y : Value) (a : AsM) : Value := .agg #[.int .i64 a.func, x, y]

theorem MvRow.kept {B : Nat} {w w' : World} {v : Value} {c : List MvM} (h : MvRow B w v c) (hs : w.heap.size ≤ w'.heap.size) (hb : ∀ b j, B ≤ b → b < w.heap.size → w'.cell? ⟨b, j, none⟩ = w.cell? ⟨b, j, none⟩) : MvRow B w' v c := by
  obtain ⟨A, cap, rfl, hn, hc⟩ := h
  refine ⟨A, cap, rfl, hn, fun i hi => ?_⟩
  obtain ⟨b, off, rfl, hB, hlt, c0, c1, c2⟩ := hc i hi
  exact ⟨b, off, rfl, hB, Nat.lt_of_lt_of_le hlt hs, by rw [hb _ _ hB hlt]; exact c0, by rw [hb _ _ hB hlt]; exact c1, by rw [hb _ _ hB hlt]; exact c2⟩

theorem AiRow.kept {B : Nat} {w w' : World} {v : Value} {c : List AiM} (h : AiRow B w v c) (hs : w.heap.size ≤ w'.heap.size) (hb : ∀ b j, B ≤ b → b < w.heap.size → w'.cell? ⟨b, j, none⟩ = w.cell? ⟨b, j, none⟩) : AiRow B w' v c := by
  obtain ⟨A, cap, rfl, hn, hc⟩ := h
  refine ⟨A, cap, rfl, hn, fun i hi => ?_⟩
  obtain ⟨b, off, x, y, rfl, hB, hlt, c0, c1, c2, c3, c4, hx, hy⟩ := hc i hi
  exact ⟨b, off, x, y, rfl, hB, Nat.lt_of_lt_of_le hlt hs, by rw [hb _ _ hB hlt]; exact c0, by rw [hb _ _ hB hlt]; exact c1, by rw [hb _ _ hB hlt]; exact c2, by rw [hb _ _ hB hlt]; exact c3, by rw [hb _ _ hB hlt]; exact c4, hx.kept hs hb, hy.kept hs hb⟩

theorem MapsRow.kept {B : Nat} {w w' : World} {v : Value} {p : List (List (Int × Int))} (h : MapsRow B w v p) (hs : w.heap.size ≤ w'.heap.size) (hb : ∀ b j, B ≤ b → b < w.heap.size → w'.cell? ⟨b, j, none⟩ = w.cell? ⟨b, j, none⟩) : MapsRow B w' v p := by
  obtain ⟨A, cap, rfl, hn, hc⟩ := h
  refine ⟨A, cap, rfl, hn, fun i hi => ?_⟩
  obtain ⟨b, off, x, rfl, hB, hlt, c0, hx⟩ := hc i hi
  exact ⟨b, off, x, rfl, hB, Nat.lt_of_lt_of_le hlt hs, by rw [hb _ _ hB hlt]; exact c0, hx.kept hs hb⟩

theorem MvRow.below {B : Nat} {w w' : World} {v : Value} {c : List MvM} (h : MvRow B w v c) (hb : Below w.heap.size w w') : MvRow B w' v c := h.kept hb.size fun _ _ _ hl => hb.cell (by exact hl)
theorem AiRow.below {B : Nat} {w w' : World} {v : Value} {c : List AiM} (h : AiRow B w v c) (hb : Below w.heap.size w w') : AiRow B w' v c := h.kept hb.size fun _ _ _ hl => hb.cell (by exact hl)
theorem MapsRow.below {B : Nat} {w w' : World} {v : Value} {c : List (List (Int × Int))} (h : MapsRow B w v c) (hb : Below w.heap.size w w') : MapsRow B w' v c := h.kept hb.size fun _ _ _ hl => hb.cell (by exact hl)
theorem AsRow.below {B : Nat} {w w' : World} {x y : Value} {a : AsM} (h : AsRow B w x y a) (hb : Below w.heap.size w w') : AsRow B w' x y a := ⟨h.1.below hb, h.2.below hb⟩

theorem MvRow.set {B : Nat} {w : World} {v : Value} {c : List MvM} (h : MvRow B w v c) {q : Addr} (hq : q.block < B) (u : Value) : MvRow B (w.setCell q u) v c :=
  h.kept (by simp) fun b j hB _ => World.cell?_setCell_other _ _ _ _ (by intro e; rw [e] at hq; exact absurd hB (Nat.not_le_of_lt hq))
theorem AiRow.set {B : Nat} {w : World} {v : Value} {c : List AiM} (h : AiRow B w v c) {q : Addr} (hq : q.block < B) (u : Value) : AiRow B (w.setCell q u) v c :=
  h.kept (by simp) fun b j hB _ => World.cell?_setCell_other _ _ _ _ (by intro e; rw [e] at hq; exact absurd hB (Nat.not_le_of_lt hq))
theorem MapsRow.set {B : Nat} {w : World} {v : Value} {c : List (List (Int × Int))} (h : MapsRow B w v c) {q : Addr} (hq : q.block < B) (u : Value) : MapsRow B (w.setCell q u) v c :=
  h.kept (by simp) fun b j hB _ => World.cell?_setCell_other _ _ _ _ (by intro e; rw [e] at hq; exact absurd hB (Nat.not_le_of_lt hq))
theorem AsRow.set {B : Nat} {w : World} {x y : Value} {a : AsM} (h : AsRow B w x y a) {q : Addr} (hq : q.block < B) (u : Value) : AsRow B (w.setCell q u) x y a := ⟨h.1.set hq u, h.2.set hq u⟩

theorem MvRow.lower {B B' : Nat} {w : World} {v : Value} {c : List MvM} (h : MvRow B w v c) (hB : B' ≤ B) : MvRow B' w v c := by
  obtain ⟨A, cap, rfl, hn, hc⟩ := h
  refine ⟨A, cap, rfl, hn, fun i hi => ?_⟩
  obtain ⟨b, off, rfl, h1, h2⟩ := hc i hi
  exact ⟨b, off, rfl, Nat.le_trans hB h1, h2⟩
theorem AiRow.lower {B B' : Nat} {w : World} {v : Value} {c : List AiM} (h : AiRow B w v c) (hB : B' ≤ B) : AiRow B' w v c := by
  obtain ⟨A, cap, rfl, hn, hc⟩ := h
  refine ⟨A, cap, rfl, hn, fun i hi => ?_⟩
  obtain ⟨b, off, x, y, rfl, h1, h2, c0, c1, c2, c3, c4, hx, hy⟩ := hc i hi
  exact ⟨b, off, x, y, rfl, Nat.le_trans hB h1, h2, c0, c1, c2, c3, c4, hx.lower hB, hy.lower hB⟩
theorem MapsRow.lower {B B' : Nat} {w : World} {v : Value} {c : List (List (Int × Int))} (h : MapsRow B w v c) (hB : B' ≤ B) : MapsRow B' w v c := by
  obtain ⟨A, cap, rfl, hn, hc⟩ := h
  refine ⟨A, cap, rfl, hn, fun i hi => ?_⟩
  obtain ⟨b, off, x, rfl, h1, h2, c0, hx⟩ := hc i hi
  exact ⟨b, off, x, rfl, Nat.le_trans hB h1, h2, c0, hx.lower hB⟩
theorem AsRow.lower {B B' : Nat} {w : World} {x y : Value} {a : AsM} (h : AsRow B w x y a) (hB : B' ≤ B) : AsRow B' w x y a := ⟨h.1.lower hB, h.2.lower hB⟩

theorem MvRow.form {B : Nat} {w : World} {v : Value} {p : List MvM} (h : MvRow B w v p) : ∃ A cap, v = .slice A p.length cap := let ⟨A, cap, h, _⟩ := h; ⟨A, cap, h⟩
theorem AiRow.form {B : Nat} {w : World} {v : Value} {p : List AiM} (h : AiRow B w v p) : ∃ A cap, v = .slice A p.length cap := let ⟨A, cap, h, _⟩ := h; ⟨A, cap, h⟩
theorem MapsRow.form {B : Nat} {w : World} {v : Value} {p : List (List (Int × Int))} (h : MapsRow B w v p) : ∃ A cap, v = .slice A p.length cap := let ⟨A, cap, h, _⟩ := h; ⟨A, cap, h⟩
theorem MvRow.len {B : Nat} {w : World} {v : Value} {p : List MvM} (h : MvRow B w v p) : p.length ≤ 9223372036854775807 := let ⟨_, _, _, hn, _⟩ := h; hn
theorem AiRow.len {B : Nat} {w : World} {v : Value} {p : List AiM} (h : AiRow B w v p) : p.length ≤ 9223372036854775807 := let ⟨_, _, _, hn, _⟩ := h; hn
theorem MapsRow.len {B : Nat} {w : World} {v : Value} {p : List (List (Int × Int))} (h : MapsRow B w v p) : p.length ≤ 9223372036854775807 := let ⟨_, _, _, hn, _⟩ := h; hn
theorem InsRow.len {B : Nat} {w : World} {v : Value} {p : List (Int × Int)} (h : InsRow B w v p) : p.length ≤ 9223372036854775807 := let ⟨_, _, _, hn, _⟩ := h; hn

theorem MvRow.at {B : Nat} {w : World} {A : Option Addr} {n cap : Nat} {c : List MvM} (h : MvRow B w (.slice A n cap) c) (k : Nat) (hk : k < c.length) :
    ∃ b off, A = some ⟨b, off, none⟩ ∧ b < w.heap.size ∧ w.cell? ⟨b, off + k * 3, none⟩ = some (.int .i64 c[k].to) ∧ w.cell? ⟨b, off + k * 3 + 1, none⟩ = some (.int .i64 c[k].kind) ∧ w.cell? ⟨b, off + k * 3 + 2, none⟩ = some (.int .i64 c[k].n) := by
  obtain ⟨A', cap', he, _, hc⟩ := h
  simp only [Value.slice.injEq] at he
  obtain ⟨rfl, _, rfl⟩ := he
  obtain ⟨b, off, h1, _, h2⟩ := hc k hk
  exact ⟨b, off, h1, h2⟩
theorem AiRow.at {B : Nat} {w : World} {A : Option Addr} {n cap : Nat} {c : List AiM} (h : AiRow B w (.slice A n cap) c) (k : Nat) (hk : k < c.length) :
    ∃ b off x y, A = some ⟨b, off, none⟩ ∧ b < w.heap.size ∧ w.cell? ⟨b, off + k * 5, none⟩ = some x ∧ w.cell? ⟨b, off + k * 5 + 1, none⟩ = some (.int .i64 c[k].op) ∧ w.cell? ⟨b, off + k * 5 + 2, none⟩ = some (.int .i64 c[k].to) ∧ w.cell? ⟨b, off + k * 5 + 3, none⟩ = some y ∧ w.cell? ⟨b, off + k * 5 + 4, none⟩ = some (.int .i64 c[k].t) ∧ MvRow B w x c[k].pre ∧ InsRow B w y c[k].l := by
  obtain ⟨A', cap', he, _, hc⟩ := h
  simp only [Value.slice.injEq] at he
  obtain ⟨rfl, _, rfl⟩ := he
  obtain ⟨b, off, x, y, h1, _, h2⟩ := hc k hk
  exact ⟨b, off, x, y, h1, h2⟩
theorem MapsRow.at {B : Nat} {w : World} {A : Option Addr} {n cap : Nat} {c : List (List (Int × Int))} (h : MapsRow B w (.slice A n cap) c) (k : Nat) (hk : k < c.length) :
    ∃ b off x, A = some ⟨b, off, none⟩ ∧ b < w.heap.size ∧ w.cell? ⟨b, off + k, none⟩ = some x ∧ InsRow B w x c[k] := by
  obtain ⟨A', cap', he, _, hc⟩ := h
  simp only [Value.slice.injEq] at he
  obtain ⟨rfl, _, rfl⟩ := he
  obtain ⟨b, off, x, h1, _, h2⟩ := hc k hk
  exact ⟨b, off, x, h1, h2⟩

/-- how much it holds -/
def AiM.bulk (f : AiM) : Nat := f.pre.length + f.l.length
def bulkA (c : List AiM) : Nat := c.length + (c.map AiM.bulk).sum
def bulkV (hs : List (List (Int × Int))) : Nat := hs.length + (hs.map List.length).sum
def AsM.bulk (a : AsM) : Nat := bulkA a.code + bulkV a.maps

/-- block b holds code's three fields -/
def AsBox (w : World) (b : Nat) (x y : Value) (a : AsM) : Prop := Box w b #[.int .i64 a.func, x, y]
theorem AsBox.below {w w' : World} {b : Nat} {x y : Value} {a : AsM} (h : AsBox w b x y a) (hb : Below w.heap.size w w') : AsBox w' b x y a := Box.below h hb
theorem AsBox.cells {w : World} {b : Nat} {x y : Value} {a : AsM} (h : AsBox w b x y a) : b < w.heap.size ∧ w.cell? ⟨b, 0, none⟩ = some (.int .i64 a.func) ∧ w.cell? ⟨b, 1, none⟩ = some x ∧ w.cell? ⟨b, 2, none⟩ = some y := ⟨h.1, h.2 0, h.2 1, h.2 2⟩
theorem asBox_new (w : World) (x y : Value) (a : AsM) (t : TypeId) : AsBox (w.alloc (.cells #[.int .i64 a.func, x, y] t)) w.heap.size x y a := box_new w _ t
end Go.Proofs.YtijgonjnmibifaaGreatDoor
