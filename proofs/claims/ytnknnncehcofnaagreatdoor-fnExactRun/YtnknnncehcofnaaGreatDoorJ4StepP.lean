/- A step of a state, as plain lists. A slice of numbers in memory that is the call's own, up to its capacity. slices.Insert of one number into a slice of the call's own. slices.Insert of one number where there is room. -/
import Derived.Test.YtnknnncehcofnaaGreatDoorJ0Prg
import Derived.Test.YtnknnncehcofnaaGreatDoorJ2TakesW
import Derived.Test.YtnknnncehcofnaaGreatDoorJ3Un
import Derived.Laws.IdiomCopy
import Derived.Deep.MidRow
import Derived.Shelf.Spec.SlicesInsertGrow
import Derived.Deep.RegionLaw
namespace Go.Proofs.YtnknnncehcofnaaGreatDoor
open Go.RowKit

/-- a called function's locals: what it is given, and zeros -/
def callLocals (lo : Nat) (l : List Int) : List Int := l ++ List.replicate (lo - l.length) 0

/-- what an instruction of arithmetic or of the heap puts, its trap, and the heap behind it -/
def doM (op : Int) (v : List Int) (hp : List (List Int)) : (Int × Int) × List (List Int) :=
  let a := v.getD 0 0
  let b := v.getD 1 0
  let arr := hp.getD (a - 1).toNat []
  if 10 ≤ op ∧ op ≤ 23 then ((binN op a b, binT op b), hp) else
  if 24 ≤ op ∧ op ≤ 29 then ((unN op a, 0), hp) else
  if op = 34 then (if hp.length < 30 ∧ 0 ≤ a ∧ a ≤ 50 then ((hp.length + 1, 0), hp ++ [List.replicate a.toNat 0]) else ((0, 14), hp)) else
  if ¬ (1 ≤ a ∧ a ≤ hp.length) then ((0, 13), hp) else
  if op = 37 then ((arr.length, 0), hp) else
  if ¬ (0 ≤ b ∧ b < arr.length) then ((0, 12), hp) else
  if op = 36 then ((0, 0), hp.set (a - 1).toNat (arr.set b.toNat (v.getD 2 0))) else
  ((arr.getD b.toNat 0, 0), hp)

/-- a machine that has trapped -/
def trapM (s : StM) (hp : List (List Int)) (t : Int) : StM := ⟨[], hp, s.out, s.fuel - 1, true, s.value, t⟩

/-- the frame on top, and those below it -/
def topM (s : StM) : FrM := s.frames.getLastD ⟨0, 0, [], []⟩
def lowM (s : StM) : List FrM := s.frames.dropLast
def insM (p : List FnM) (s : StM) : Int × Int := (fnAt p (topM s).func).code.getD (topM s).pc.toNat (0, 0)

/-- .. with this frame on top -/
def withM (s : StM) (f : FrM) : StM := ⟨lowM s ++ [f], s.heap, s.out, s.fuel - 1, s.done, s.value, s.trap⟩

def stepM (p : List FnM) (s : StM) : StM :=
  let f := topM s
  let op := (insM p s).1
  let x := (insM p s).2
  let k := f.stack.length - (takesM p op x).toNat
  let v := f.stack.drop k
  let st := f.stack.take k
  let a := v.getD 0 0
  if op = 1 then withM s ⟨f.func, f.pc + 1, f.locals, st ++ [x]⟩ else
  if op = 2 then withM s ⟨f.func, f.pc + 1, f.locals, st ++ [f.locals.getD x.toNat 0]⟩ else
  if op = 3 then withM s ⟨f.func, f.pc + 1, f.locals.set x.toNat a, st⟩ else
  if op = 4 then withM s ⟨f.func, f.pc + 1, f.locals, st ++ [a, a]⟩ else
  if op = 5 then withM s ⟨f.func, f.pc + 1, f.locals, st⟩ else
  if op = 30 then withM s ⟨f.func, x, f.locals, st⟩ else
  if op = 31 then withM s ⟨f.func, if a = 0 then x else f.pc + 1, f.locals, st⟩ else
  if op = 32 then (if s.frames.length < 10 then { withM s ⟨f.func, f.pc + 1, f.locals, st⟩ with frames := lowM s ++ [⟨f.func, f.pc + 1, f.locals, st⟩, ⟨x, 0, callLocals (fnAt p x).locals.toNat v, []⟩] } else trapM s s.heap 15) else
  if op = 33 then (if lowM s = [] then ⟨[], s.heap, s.out, s.fuel - 1, true, a, s.trap⟩ else
    let g := (lowM s).getLastD ⟨0, 0, [], []⟩
    ⟨(lowM s).dropLast ++ [⟨g.func, g.pc, g.locals, g.stack ++ [a]⟩], s.heap, s.out, s.fuel - 1, s.done, s.value, s.trap⟩) else
  if op = 38 then { withM s ⟨f.func, f.pc + 1, f.locals, st⟩ with out := s.out ++ [a] } else
  let r := doM op v s.heap
  if r.1.2 ≠ 0 then trapM s r.2 r.1.2 else
  { withM s ⟨f.func, f.pc + 1, f.locals, if op = 36 then st else st ++ [r.1.1]⟩ with heap := r.2 }

/-- is there a step -/
def goesM (s : StM) : Bool := !s.done && decide (0 < s.fuel)

theorem stepM_fuel (p : List FnM) (s : StM) : (stepM p s).fuel = s.fuel - 1 := by
  simp only [stepM, withM, trapM, apply_ite StM.fuel, ite_self]

/-- all steps -/
def runM (p : List FnM) : Nat → StM → StM
  | 0, s => s
  | n + 1, s => if goesM s then runM p n (stepM p s) else s

theorem runM_goes {p : List FnM} {n : Nat} {s : StM} (h : goesM s = true) : runM p (n + 1) s = runM p n (stepM p s) := by simp [runM, h]
theorem runM_stays {p : List FnM} {n : Nat} {s : StM} (h : goesM s = false) : runM p n s = s := by cases n <;> simp [runM, h]

/-- enough turns are enough -/
theorem runM_more {p : List FnM} (n m : Nat) (s : StM) (h : s.fuel ≤ n) (hm : s.fuel ≤ m) : runM p n s = runM p m s := by
  induction n generalizing m s with
  | zero =>
    have hg : goesM s = false := by have : ¬ 0 < s.fuel := by omega
                                    simp [goesM, this]
    rw [runM_stays hg, runM_stays hg]
  | succ n ih =>
    cases hg : goesM s with
    | false => rw [runM_stays hg, runM_stays hg]
    | true =>
      have hf : 0 < s.fuel := by simp [goesM] at hg; exact hg.2
      obtain ⟨m, rfl⟩ : ∃ k, m = k + 1 := ⟨m - 1, by omega⟩
      rw [runM_goes hg, runM_goes hg]
      exact ih m _ (by rw [stepM_fuel]; omega) (by rw [stepM_fuel]; omega)

theorem doM_heap (op : Int) (v : List Int) (hp : List (List Int)) (h : hp.length ≤ 30) (h2 : ∀ a ∈ hp, a.length ≤ 50) : (doM op v hp).2.length ≤ 30 ∧ ∀ a ∈ (doM op v hp).2, a.length ≤ 50 := by
  unfold doM
  dsimp only
  split
  · exact ⟨h, h2⟩
  split
  · exact ⟨h, h2⟩
  split
  · split
    · rename_i hc
      refine ⟨by simp; omega, fun a ha => ?_⟩
      simp only [List.mem_append, List.mem_singleton] at ha
      rcases ha with ha | rfl
      · exact h2 a ha
      · rw [List.length_replicate]; omega
    · exact ⟨h, h2⟩
  split
  · exact ⟨h, h2⟩
  split
  · exact ⟨h, h2⟩
  split
  · exact ⟨h, h2⟩
  rename_i h4 _ _
  split
  · refine ⟨by simpa using h, fun a ha => ?_⟩
    rcases List.mem_or_eq_of_mem_set ha with ha | rfl
    · exact h2 a ha
    · rw [List.length_set]
      have hlt : (v.getD 0 0 - 1).toNat < hp.length := by omega
      rw [show hp.getD (v.getD 0 0 - 1).toNat [] = hp[(v.getD 0 0 - 1).toNat] by rw [List.getD, List.getElem?_eq_getElem hlt]; rfl]
      exact h2 _ (List.getElem_mem hlt)
  · exact ⟨h, h2⟩

/-- what holds of a state's end, of its tops, of its traps, holds behind a step -/
theorem ite_case {c : Prop} [Decidable c] {P : StM → Prop} {a b : StM} (ha : c → P a) (hb : ¬ c → P b) : P (if c then a else b) := by
  by_cases h : c
  · rw [if_pos h]; exact ha h
  · rw [if_neg h]; exact hb h

theorem stepM_out (p : List FnM) (s : StM) : (stepM p s).out.length ≤ s.out.length + 1 := by
  unfold stepM
  dsimp only
  repeat (first | (show _ ≤ _ + 1; simp only [withM, trapM, List.length_append, List.length_singleton]; omega) | refine ite_case (P := fun t => t.out.length ≤ s.out.length + 1) (fun _ => ?_) (fun _ => ?_))

theorem stepM_heap (p : List FnM) (s : StM) (h : s.heap.length ≤ 30) (h2 : ∀ a ∈ s.heap, a.length ≤ 50) : (stepM p s).heap.length ≤ 30 ∧ ∀ a ∈ (stepM p s).heap, a.length ≤ 50 := by
  unfold stepM
  dsimp only
  repeat (first | exact ⟨h, h2⟩ | exact doM_heap _ _ _ h h2 | refine ite_case (P := fun t => t.heap.length ≤ 30 ∧ ∀ a ∈ t.heap, a.length ≤ 50) (fun _ => ?_) (fun _ => ?_))
end Go.Proofs.YtnknnncehcofnaaGreatDoor

namespace Go.Proofs.YtnknnncehcofnaaGreatDoor
open Go.RowKit

structure OwnAt (B : Nat) (w : World) (b off cap : Nat) (zs : List Int) : Prop where
  low : B ≤ b
  lt : b < w.heap.size
  room : zs.length ≤ cap
  top : cap ≤ maxLen
  cells : ∀ j (h : j < zs.length), w.cell? ⟨b, off + j, none⟩ = some (.int .i64 zs[j])
  spare : ∀ j, j < cap → (w.cell? ⟨b, off + j, none⟩).isSome = true ∧ w.frozen? ⟨b, off + j, none⟩ = false

theorem OwnAt.kept {B b off cap : Nat} {w w' : World} {zs : List Int} (h : OwnAt B w b off cap zs) (hs : w.heap.size ≤ w'.heap.size) (hb : w'.heap[b]? = w.heap[b]?) : OwnAt B w' b off cap zs :=
  ⟨h.low, Nat.lt_of_lt_of_le h.lt hs, h.room, h.top, fun j hj => by rw [World.cell?_of_block (w := w) (by exact hb)]; exact h.cells j hj,
    fun j hj => by rw [World.cell?_of_block (w := w) (by exact hb), World.frozen?_of_block (w := w) (by exact hb)]; exact h.spare j hj⟩

theorem OwnAt.below {B b off cap : Nat} {w w' : World} {zs : List Int} (h : OwnAt B w b off cap zs) (hb : Below w.heap.size w w') : OwnAt B w' b off cap zs := h.kept hb.size (hb.block b h.lt)

theorem OwnAt.grown {B b off cap : Nat} {w w' : World} {zs : List Int} {row : Option Nat} (h : OwnAt B w b off cap zs) (hg : w.grownBy w' row) (hne : some b ≠ row) : OwnAt B w' b off cap zs := h.kept hg.size (hg.block b h.lt hne)

theorem OwnAt.setFar {B b off cap : Nat} {w : World} {zs : List Int} (h : OwnAt B w b off cap zs) (q : Addr) (u : Value) (hq : b ≠ q.block) : OwnAt B (w.setCell q u) b off cap zs := h.kept (by simp) (Below.heap_setCell w q u b hq)

/-- the slice without its first one -/
theorem OwnAt.tail {B b off cap : Nat} {w : World} {z : Int} {zs : List Int} (h : OwnAt B w b off cap (z :: zs)) : OwnAt B w b (off + 1) (cap - 1) zs := by
  have hr := h.room
  simp only [List.length_cons] at hr
  have ht := h.top
  refine ⟨h.low, h.lt, by omega, by omega, fun j hj => ?_, fun j hj => ?_⟩
  · have := h.cells (j + 1) (by simp; omega)
    rw [show off + 1 + j = off + (j + 1) by omega]
    simpa using this
  · rw [show off + 1 + j = off + (j + 1) by omega]
    exact h.spare (j + 1) (by omega)

theorem OwnAt.fresh {B N cap : Nat} {W : World} {C : Array Value} {zs : List Int} {t : TypeId} (hN : W.heap[N]? = some (.cells C t (0, 0))) (hB : B ≤ N) (hc : C.size = cap) (ht : cap ≤ maxLen) (hr : zs.length ≤ cap)
    (hz : ∀ j (h : j < zs.length), C[j]? = some (.int .i64 zs[j])) : OwnAt B W N 0 cap zs := by
  have hcell : ∀ j, W.cell? ⟨N, 0 + j, none⟩ = C[j]? := fun j => by simp [World.cell?, hN]
  refine ⟨hB, (Array.getElem?_eq_some_iff.1 hN).1, hr, ht, fun j hj => by rw [hcell]; exact hz j hj, fun j hj => ⟨?_, ?_⟩⟩
  · rw [hcell, Array.getElem?_eq_getElem (by omega)]; rfl
  · simp [World.frozen?, hN]

theorem grown_setCells (b : Nat) : ∀ (vs : List Value) (o : Nat) (w : World), w.grownBy (w.setCells b o vs) (some b)
  | [], _, w => World.grownBy.refl w _
  | v :: r, o, w => by
    have h1 : w.grownBy (w.setCell ⟨b, o, none⟩ v) (some b) := ⟨rfl, rfl, rfl, by simp, fun k _ hk => Below.heap_setCell w _ _ k (fun e => hk (by rw [e]))⟩
    obtain ⟨a1, a2, a3, a4, a5⟩ := h1
    obtain ⟨b1, b2, b3, b4, b5⟩ := grown_setCells b r (o + 1) (w.setCell ⟨b, o, none⟩ v)
    exact ⟨b1.trans a1, b2.trans a2, b3.trans a3, Nat.le_trans a4 b4, fun k hk hne => (b5 k (Nat.lt_of_lt_of_le hk a4) hne).trans (a5 k hk hne)⟩

theorem grown_trans {a b c : World} {row : Option Nat} (h : a.grownBy b row) (k : b.grownBy c row) : a.grownBy c row :=
  ⟨k.os.trans h.os, k.tape.trans h.tape, k.output.trans h.output, Nat.le_trans h.size k.size, fun i hi hne => (k.block i (Nat.lt_of_lt_of_le hi h.size) hne).trans (h.block i hi hne)⟩

theorem grown_drew (w : World) (row : Option Nat) : w.grownBy w.drew row := ⟨rfl, rfl, rfl, Nat.le_refl _, fun _ _ _ => rfl⟩

/-- new blocks alone, and what is done to them -/
theorem grown_of_below {w w' : World} {row : Option Nat} (h : Below w.heap.size w w') : w.grownBy w' row := ⟨h.os, h.tape, h.output, h.size, fun k hk _ => h.block k hk⟩

/-- numbers put into a row of the call's own, wherever it has room -/
theorem OwnAt.put {B b off cap : Nat} {w : World} {zs : List Int} (h : OwnAt B w b off cap zs) (o : Nat) (ys : List Int) (ho : o + ys.length ≤ cap) (zs' : List Int) (hr : zs'.length ≤ cap)
    (hz : ∀ j (hj : j < zs'.length), (o ≤ j ∧ j < o + ys.length ∧ ys[j - o]? = some zs'[j]) ∨ ((j < o ∨ o + ys.length ≤ j) ∧ zs[j]? = some zs'[j])) :
    OwnAt B (w.setCells b (off + o) (ints ys)) b off cap zs' := by
  have hlen : (ints ys).length = ys.length := ints_length ys
  have hsp : ∀ j, j < (ints ys).length → (w.cell? ⟨b, off + o + j, none⟩).isSome = true := fun j hj => by
    rw [Nat.add_assoc]; exact (h.spare (o + j) (by omega)).1
  refine ⟨h.low, Nat.lt_of_lt_of_le h.lt (grown_setCells _ _ _ _).size, hr, h.top, fun j hj => ?_, fun j hj => ⟨?_, ?_⟩⟩
  · rcases hz j hj with ⟨h1, h2, h3⟩ | ⟨h1, h2⟩
    · have := World.cell?_setCells_in b (ints ys) (off + o) w hsp (j - o) (by omega)
      rw [show off + o + (j - o) = off + j by omega] at this
      rw [this]
      have h4 : j - o < ys.length := by omega
      rw [List.getElem?_eq_getElem h4] at h3
      simp only [Option.some.injEq] at h3
      simp [ints, h3]
    · rw [World.cell?_setCells_out b _ _ _ _ (fun _ _ => by show off + j < off + o ∨ off + o + (ints ys).length ≤ off + j; omega)]
      obtain ⟨h4, h5⟩ := List.getElem?_eq_some_iff.1 h2
      rw [h.cells j h4, h5]
  · exact World.isSome_setCells b _ _ _ _ (h.spare j hj).1
  · rw [World.frozen?_setCells]; exact (h.spare j hj).2

theorem OwnAt.irow {B b off cap : Nat} {w : World} {zs : List Int} (h : OwnAt B w b off cap zs) : IRow B w (.slice (some ⟨b, off, none⟩) zs.length cap) zs :=
  ⟨_, cap, rfl, by have := h.room; have := h.top; unfold maxLen at this; omega, fun i hi => ⟨b, off, rfl, h.low, h.lt, h.cells i hi⟩⟩
end Go.Proofs.YtnknnncehcofnaaGreatDoor

namespace Go.Proofs.YtnknnncehcofnaaGreatDoor
open Go.RowKit Go.Lib

theorem ints_one (zs : List Int) : ∀ v ∈ ints zs, v.oneCell' = true := by
  intro v hv
  obtain ⟨x, _, rfl⟩ := List.mem_map.1 hv
  rfl

def putAt (zs : List Int) (i : Nat) (x : Int) : List Int := zs.take i ++ x :: zs.drop i
theorem putAt_length (zs : List Int) (i : Nat) (x : Int) (hi : i ≤ zs.length) : (putAt zs i x).length = zs.length + 1 := by simp [putAt]; omega
theorem putAt_get (zs : List Int) (i : Nat) (x : Int) (hi : i ≤ zs.length) (j : Nat) (hj : j < (putAt zs i x).length) :
    (j < i → zs[j]? = some (putAt zs i x)[j]) ∧ (j = i → (putAt zs i x)[j] = x) ∧ (i < j → zs[j - 1]? = some (putAt zs i x)[j]) := by
  have hg : ∀ y, (putAt zs i x)[j]? = some y → (putAt zs i x)[j] = y := fun y h => by rw [List.getElem?_eq_getElem hj] at h; exact Option.some.inj h
  have hl : (zs.take i).length = i := by rw [List.length_take]; omega
  refine ⟨fun h => ?_, fun h => ?_, fun h => ?_⟩
  · have h1 : (putAt zs i x)[j]? = zs[j]? := by unfold putAt; rw [List.getElem?_append_left (by omega), List.getElem?_take, if_pos h]
    rw [← h1, List.getElem?_eq_getElem hj]
  · subst h
    refine hg x ?_
    unfold putAt
    rw [List.getElem?_append_right (by omega), hl]
    simp
  · have h1 : (putAt zs i x)[j]? = zs[j - 1]? := by
      unfold putAt
      rw [List.getElem?_append_right (by omega), hl, show j - i = (j - i - 1) + 1 by omega, List.getElem?_cons_succ, List.getElem?_drop]
      congr 1
      omega
    rw [← h1, List.getElem?_eq_getElem hj]

theorem putAt_at (zs : List Int) (i : Nat) (x : Int) (hi : i ≤ zs.length) (j : Nat) : (putAt zs i x)[j]? = if j < i then zs[j]? else if j = i then some x else zs[j - 1]? := by
  have hl : (zs.take i).length = i := by rw [List.length_take]; omega
  unfold putAt
  by_cases h : j < i
  · rw [if_pos h, List.getElem?_append_left (by omega), List.getElem?_take, if_pos h]
  · rw [if_neg h, List.getElem?_append_right (by omega), hl]
    by_cases he : j = i
    · rw [if_pos he, he]; simp
    · rw [if_neg he, show j - i = (j - i - 1) + 1 by omega, List.getElem?_cons_succ, List.getElem?_drop]
      congr 1
      omega

theorem some_get (l : List Int) (j : Nat) (h : j < l.length) : some l[j] = l[j]? := (List.getElem?_eq_getElem h).symm

/-- a row that was moved up from i on, then x laid there -/
theorem OwnAt.shift {B b off cap : Nat} {w : World} {zs : List Int} (h : OwnAt B w b off cap zs) (i : Nat) (x : Int) (hi : i < zs.length) (hc : zs.length + 1 ≤ cap) :
    OwnAt B (w.setCells b (off + (i + 1)) (ints (zs.drop i))) b off cap (putAt zs i zs[i]) ∧ OwnAt B ((w.setCells b (off + (i + 1)) (ints (zs.drop i))).setCells b (off + i) (ints [x])) b off cap (putAt zs i x) := by
  have hl := putAt_length zs i zs[i] (by omega)
  have hl' := putAt_length zs i x (by omega)
  have h1 : OwnAt B (w.setCells b (off + (i + 1)) (ints (zs.drop i))) b off cap (putAt zs i zs[i]) := h.put (i + 1) (zs.drop i) (by simp; omega) _ (by omega) (fun j hj => by
    rw [some_get, putAt_at _ _ _ (by omega)]
    by_cases hji : j < i + 1
    · refine .inr ⟨.inl hji, ?_⟩
      by_cases he : j < i
      · rw [if_pos he]
      · rw [if_neg he, if_pos (by omega), show j = i by omega, List.getElem?_eq_getElem hi]
    · refine .inl ⟨by omega, by simp; omega, ?_⟩
      rw [if_neg (by omega), if_neg (by omega), List.getElem?_drop]
      congr 1
      omega)
  refine ⟨h1, h1.put i [x] (by simp; omega) _ (by omega) (fun j hj => ?_)⟩
  rw [some_get, putAt_at zs i x (by omega), putAt_at zs i zs[i] (by omega)]
  by_cases he : j = i
  · refine .inl ⟨by omega, by simp; omega, ?_⟩
    rw [if_neg (by omega), if_pos he, he]
    simp
  · refine .inr ⟨by simp; omega, ?_⟩
    by_cases hlt : j < i
    · rw [if_pos hlt, if_pos hlt]
    · rw [if_neg hlt, if_neg hlt, if_neg he, if_neg he]

theorem arr_ints (ys : List Int) (Z : Array Value) (j : Nat) (h : j < ys.length) : ((ints ys).toArray ++ Z)[j]? = some (.int .i64 ys[j]) := by
  rw [Array.getElem?_append_left (by simpa [ints] using h)]
  simp [ints, h]

theorem own_new {B : Nat} (w : World) (ys : List Int) (G : Nat) (hB : B ≤ w.heap.size) (h1 : ys.length ≤ G) (h2 : G ≤ maxLen) :
    OwnAt B (w.alloc (.cells ((ints ys).toArray ++ Builtin.zeroCells #[Value.int .i64 0] (G - ys.length)) 2)) w.heap.size 0 G ys :=
  OwnAt.fresh (heap_alloc_new w _) hB (by simp [ints, size_zeroCells]; omega) h2 h1 fun j hj => arr_ints ys _ j hj

set_option maxRecDepth 100000 in
set_option maxHeartbeats 1600000 in
theorem insertEnd {B : Nat} (b off cap : Nat) (zs : List Int) (i : Nat) (x : Int) (vb : Nat) (w : World) (h : OwnAt B w b off cap zs) (hi : i ≤ zs.length) (hin : i = zs.length) (hl : zs.length ≤ 1048576) (hB : B ≤ w.heap.size)
    (hv : w.heap[vb]? = some (.cells #[.int .i64 x] 2 (0, 0))) (_ : vb ≠ b) :
    Calls Tryz.prog 236 #[.slice (some ⟨b, off, none⟩) zs.length cap, .int .i64 i, .slice (some ⟨vb, 0, none⟩) 1 1] w fun e w' =>
      ∃ b' off' cap', e = .returned (.slice (some ⟨b', off', none⟩) (zs.length + 1) cap') ∧ OwnAt B w' b' off' cap' (putAt zs i x) ∧ w.grownBy w' (some b) ∧ (b' = b ∨ w.heap.size ≤ b') := by
  have Hh : Hid (OwnAt B w b off cap zs) := h
  have htop : cap ≤ 9223372036854775807 := h.top
  have hroom := h.room
  have hpl := putAt_length zs i x hi
  have hpg := putAt_get zs i x hi
  have Hpl : Hid (_ = _) := hpl
  have Hpg : Hid (∀ j (hj : j < (putAt zs i x).length), (j < i → zs[j]? = some (putAt zs i x)[j]) ∧ (j = i → (putAt zs i x)[j] = x) ∧ (i < j → zs[j - 1]? = some (putAt zs i x)[j])) := hpg
  have Hv : Hid (w.heap[vb]? = some (.cells #[.int .i64 x] 2 (0, 0))) := hv
  have hvc : w.cell? ⟨vb, 0, none⟩ = some (.int .i64 x) := by simp [World.cell?, hv]
  have hvs : ∀ j u, [Value.int .i64 x][j]? = some u → w.cell? ((⟨vb, 0, none⟩ : Addr).add j) = some u := fun j u hj => by
    cases j with
    | zero => simp at hj; subst hj; rw [Addr.add_lit]; exact hvc
    | succ j => simp at hj
  have hv1 : ∀ u ∈ [Value.int .i64 x], u.oneCell' = true := fun u hu => by simp at hu; subst hu; rfl
  obtain ⟨i0, hi0, hz0, hzs, hzb⟩ := info_parts Tryz.info64
  have hsz1 : (Tryz.prog.info? 2).map (·.size) = some 1 := by rw [hi0]; simp [hzs]
  have hsrc : Src Tryz.prog 1 28 (.slice (some ⟨vb, 0, none⟩) 1 1) 1 [.int .i64 x] w := Src.ofSlice w Tryz.underlying28 ⟨vb, 0, none⟩ 1 1 [.int .i64 x] (by simp) hvs hv1
  have hold : ∀ k, k ≤ zs.length → (Builtin.firstCells i0.size k (.slice (some ⟨b, off, none⟩) k cap)).run Tryz.prog w.drew = .ok (ints (zs.take k)).toArray w.drew := fun k hk => by
    rw [hzs]
    exact run_firstCells_some w.drew 1 k ⟨b, off, none⟩ k cap (ints (zs.take k)) (by simp [ints]; omega) (fun j v hj => by
      rw [Addr.add_lit]
      have hj' : j < k := by
        have := (List.getElem?_eq_some_iff.1 hj).1
        simp [ints] at this
        omega
      have := h.cells j (by omega)
      show w.cell? _ = _
      rw [this, ← hj]
      simp [ints, hj', show j < zs.length by omega])
  clear h hv hpl hpg
  subst hin
  have hc1 : ¬ ((1 : Int) = 0) := by omega
  by_cases hc : zs.length + 1 ≤ cap
  · go_enter Tryz.func236, Tryz.ntmps236
    go_wp2_with (at_builtin; refine wpList_append_room1 _ rfl _ _ 28 28 rfl 2 _ _ Tryz.underlying28 Tryz.info64 b off zs.length cap rfl _ rfl 1 _ hsrc hc ?g1 ?g2 ?_)
    case g1 => intro j hj; simp at hj; subst hj; rw [Nat.add_zero]; exact (Hh.out.spare zs.length (by omega)).1
    case g2 => intro j hj; simp at hj; subst hj; rw [Nat.add_zero]; exact (Hh.out.spare zs.length (by omega)).2
    go_ret
    refine ⟨b, off, cap, rfl, Hh.out.put zs.length [x] (by simpa using hc) _ (by rw [Hpl.out]; exact hc) (fun j hj => ?_), grown_setCells _ _ _ _, .inl rfl⟩
    have hp := Hpg.out j hj
    rw [Hpl.out] at hj
    by_cases he : j = zs.length
    · exact .inl ⟨by omega, by simp; omega, by rw [hp.2.1 he]; simp [he]⟩
    · exact .inr ⟨by omega, hp.1 (by omega)⟩
  · have hrun : ∀ ty, (Builtin.append_ #[28, 28] ty #[.slice (some ⟨b, off, none⟩) zs.length cap, .slice (some ⟨vb, 0, none⟩) 1 1]).run Tryz.prog w = _ := fun ty =>
      run_append_grow_src w 28 28 ty 2 i0 _ Tryz.underlying28 hi0 hz0 (some ⟨b, off, none⟩) zs.length cap _ (by have := hold zs.length (Nat.le_refl _); rwa [List.take_length] at this) _ 1 _ (by rw [hzs]; exact hsrc) (by omega) (by omega) (by rw [hzb]; exact growslice_fits (by omega) (by omega))
    go_enter Tryz.func236, Tryz.ntmps236
    go_wp2_with (at_builtin; refine Lib.wpList_append_run _ rfl _ _ _ _ rfl _ _ rfl rfl _ _ (hrun _) ?_)
    go_ret
    have hnew := own_new (B := B) w (zs ++ [x]) (grownCap w (zs.length + 1) cap 2) hB (by simpa using grownCap_ge w (zs.length + 1) cap 2) (grownCap_le_maxLen w (zs.length + 1) cap 2 (by unfold maxLen; omega))
    rw [ints_snoc, List.length_append, List.length_singleton] at hnew
    refine ⟨_, _, _, rfl, by rw [show putAt zs zs.length x = zs ++ [x] by simp [putAt]]; exact hnew.kept (Nat.le_refl _) rfl, grown_trans (World.grownBy_alloc w _ _) (grown_drew _ _), .inr (Nat.le_refl _)⟩

end Go.Proofs.YtnknnncehcofnaaGreatDoor

namespace Go.Proofs.YtnknnncehcofnaaGreatDoor
open Go.RowKit Go.Lib

set_option maxRecDepth 100000 in
set_option maxHeartbeats 1600000 in
theorem insertShift {B : Nat} (b off cap : Nat) (zs : List Int) (i : Nat) (x : Int) (vb : Nat) (w : World) (h : OwnAt B w b off cap zs) (hi : i ≤ zs.length) (hin' : i < zs.length) (hc : zs.length + 1 ≤ cap) (hl : zs.length ≤ 1048576) (_ : B ≤ w.heap.size)
    (hv : w.heap[vb]? = some (.cells #[.int .i64 x] 2 (0, 0))) (hne : vb ≠ b) :
    Calls Tryz.prog 236 #[.slice (some ⟨b, off, none⟩) zs.length cap, .int .i64 i, .slice (some ⟨vb, 0, none⟩) 1 1] w fun e w' =>
      ∃ b' off' cap', e = .returned (.slice (some ⟨b', off', none⟩) (zs.length + 1) cap') ∧ OwnAt B w' b' off' cap' (putAt zs i x) ∧ w.grownBy w' (some b) ∧ (b' = b ∨ w.heap.size ≤ b') := by
  have Hh : Hid (OwnAt B w b off cap zs) := h
  have htop : cap ≤ 9223372036854775807 := h.top
  have hroom := h.room
  have hpl := putAt_length zs i x hi
  have hpg := putAt_get zs i x hi
  have Hpl : Hid (_ = _) := hpl
  have Hpg : Hid (∀ j (hj : j < (putAt zs i x).length), (j < i → zs[j]? = some (putAt zs i x)[j]) ∧ (j = i → (putAt zs i x)[j] = x) ∧ (i < j → zs[j - 1]? = some (putAt zs i x)[j])) := hpg
  have Hv : Hid (w.heap[vb]? = some (.cells #[.int .i64 x] 2 (0, 0))) := hv
  have hvc : w.cell? ⟨vb, 0, none⟩ = some (.int .i64 x) := by simp [World.cell?, hv]
  have hvs : ∀ j u, [Value.int .i64 x][j]? = some u → w.cell? ((⟨vb, 0, none⟩ : Addr).add j) = some u := fun j u hj => by
    cases j with
    | zero => simp at hj; subst hj; rw [Addr.add_lit]; exact hvc
    | succ j => simp at hj
  have hv1 : ∀ u ∈ [Value.int .i64 x], u.oneCell' = true := fun u hu => by simp at hu; subst hu; rfl
  obtain ⟨i0, hi0, hz0, hzs, hzb⟩ := info_parts Tryz.info64
  have hsz1 : (Tryz.prog.info? 2).map (·.size) = some 1 := by rw [hi0]; simp [hzs]
  have hsrc : Src Tryz.prog 1 28 (.slice (some ⟨vb, 0, none⟩) 1 1) 1 [.int .i64 x] w := Src.ofSlice w Tryz.underlying28 ⟨vb, 0, none⟩ 1 1 [.int .i64 x] (by simp) hvs hv1
  have hold : ∀ k, k ≤ zs.length → (Builtin.firstCells i0.size k (.slice (some ⟨b, off, none⟩) k cap)).run Tryz.prog w.drew = .ok (ints (zs.take k)).toArray w.drew := fun k hk => by
    rw [hzs]
    exact run_firstCells_some w.drew 1 k ⟨b, off, none⟩ k cap (ints (zs.take k)) (by simp [ints]; omega) (fun j v hj => by
      rw [Addr.add_lit]
      have hj' : j < k := by
        have := (List.getElem?_eq_some_iff.1 hj).1
        simp [ints] at this
        omega
      have := h.cells j (by omega)
      show w.cell? _ = _
      rw [this, ← hj]
      simp [ints, hj', show j < zs.length by omega])
  clear h hv hpl hpg
  have hdl : (ints (zs.drop i)).length = zs.length - i := by simp [ints]
  have hz2 : ¬ ((i : Int) = (zs.length : Int)) := by omega
  have hcs : ∀ j u, (ints (zs.drop i))[j]? = some u → w.cell? ⟨b, off + (i + j), none⟩ = some u := fun j u hj => by
    have hj' := (List.getElem?_eq_some_iff.1 hj).1
    rw [hdl] at hj'
    rw [Hh.out.cells (i + j) (by omega), ← hj]
    simp [ints, show i + j < zs.length by omega]
  obtain ⟨tB, kB, hsb, hkB, _⟩ := World.shape?_of_cell? (Hh.out.cells 0 (by omega))
  have hsa : w.shape? vb = some (2, 1) := by simp [World.shape?, Hv.out]
  have hfa : ∀ o, w.frozen? ⟨vb, o, none⟩ = false := fun o => by simp [World.frozen?, Hv.out]
  have hov : ∀ lb cb, (callFunc 271 #[.slice (some ⟨vb, 0, none⟩) 1 1, .slice (some ⟨b, off + (i + 1), none⟩) lb cb]).run Tryz.prog w = .ok (.value (.bool false)) w := fun lb cb => by
    rw [run_callFunc_extern Tryz.func271 (by kernel_rfl) (by kernel_rfl) (by kernel_rfl) (e := Extern.SlicesOverlaps.overlaps #[28, 28] #[4]) (by kernel_rfl),
      Lib.run_overlaps_apart w 28 4 2 Tryz.underlying28 1 Tryz.sizeOf2 ⟨vb, 0, none⟩ ⟨b, off + (i + 1), none⟩ 1 1 lb cb hne 2 tB 1 kB hsa hsb (by omega) (hfa 0) (hfa 1)]
    rfl
  have hcp1 : ∀ ty dc sc, (Builtin.copy_ #[28, 28] ty #[.slice (some ⟨b, off + (i + 1), none⟩) (zs.length + 1 - (i + 1)) dc, .slice (some ⟨b, off + i, none⟩) (zs.length + 1 - i) sc]).run Tryz.prog w.drew = .ok (goInt (ints (zs.drop i)).length) (w.drew.setCells b (off + (i + 1)) (ints (zs.drop i))) := fun ty dc sc =>
    run_copy_cells w.drew _ _ ty 2 b (off + (i + 1)) (zs.length + 1 - (i + 1)) dc ⟨b, off + i, none⟩ (zs.length + 1 - i) sc (ints (zs.drop i)) Tryz.underlying28 hsz1 (by rw [hdl]; simp only [Nat.min_def]; split <;> omega)
      (fun j v hj => by rw [Addr.add_lit, Nat.add_assoc]; exact hcs j v hj)
      (fun j hj => by rw [Nat.add_assoc]; exact (Hh.out.spare _ (by omega)).1) (fun j hj => by rw [Nat.add_assoc]; exact (Hh.out.spare _ (by omega)).2) (ints_one _)
  obtain ⟨hm1, hm2⟩ := Hh.out.shift i x hin' hc
  have Hm1 : Hid (OwnAt B (w.setCells b (off + (i + 1)) (ints (zs.drop i))) b off cap (putAt zs i zs[i])) := hm1
  have Hm2 : Hid (OwnAt B ((w.setCells b (off + (i + 1)) (ints (zs.drop i))).setCells b (off + i) (ints [x])) b off cap (putAt zs i x)) := hm2
  have Hg2 : Hid (w.grownBy ((w.setCells b (off + (i + 1)) (ints (zs.drop i))).setCells b (off + i) (ints [x])) (some b)) := grown_trans (grown_setCells _ _ _ _) (grown_setCells _ _ _ _)
  obtain ⟨W1, hW1⟩ : ∃ W1, W1 = w.setCells b (off + (i + 1)) (ints (zs.drop i)) := ⟨_, rfl⟩
  have hcp2 : ∀ (W : World), (∀ y, W.cell? y = W1.cell? y) → (∀ y, W.frozen? y = W1.frozen? y) → ∀ ty dc, (Builtin.copy_ #[28, 28] ty #[.slice (some ⟨b, off + i, none⟩) (zs.length + 1 - i) dc, .slice (some ⟨vb, 0, none⟩) 1 1]).run Tryz.prog W = .ok (goInt 1) (W.setCells b (off + i) (ints [x])) := fun W hWc hWf ty dc =>
    run_copy_cells W _ _ ty 2 b (off + i) (zs.length + 1 - i) dc ⟨vb, 0, none⟩ 1 1 (ints [x]) Tryz.underlying28 hsz1 (by simp [ints]; simp only [Nat.min_def]; split <;> omega)
      (fun j v hj => by
        rw [Addr.add_lit, hWc, hW1, World.cell?_setCells_out b _ _ _ _ (fun e _ => absurd e hne)]
        have := hvs j v hj
        rwa [Addr.add_lit] at this)
      (fun j hj => by rw [hWc, hW1, Nat.add_assoc]; simp [ints] at hj; subst hj; exact (Hm1.out.spare i (by omega)).1) (fun j hj => by rw [hWf, hW1, Nat.add_assoc]; simp [ints] at hj; subst hj; exact (Hm1.out.spare i (by omega)).2) (ints_one _)
  have hcp2' := fun ty dc => hcp2 W1.drew (fun _ => rfl) (fun _ => rfl) ty dc
  clear hcp2
  have hcp1' : ∀ ty dc sc, (Builtin.copy_ #[28, 28] ty #[.slice (some ⟨b, off + (i + 1), none⟩) (zs.length - i) dc, .slice (some ⟨b, off + i, none⟩) (zs.length + 1 - i) sc]).run Tryz.prog w.drew = .ok (goInt (ints (zs.drop i)).length) W1.drew := fun ty dc sc => by
    have := hcp1 ty dc sc
    rw [show zs.length + 1 - (i + 1) = zs.length - i by omega] at this
    rw [this, hW1, drew_setCells]
  have HW1 : Hid (W1 = w.setCells b (off + (i + 1)) (ints (zs.drop i))) := hW1
  clear hcp1 hW1 hcs hvs hv1 hsrc hold hm1 hm2 hsa hsb hfa
  have hw1 : IntKind.i64.wrap ((i : Int) + 1) = (i : Int) + 1 := by rw [IntKind.wrap_i64]; omega
  have hb1 : (0 : Int) ≤ (i : Int) + 1 := by omega
  have htn : ((i : Int) + 1).toNat = i + 1 := by omega
  have hb2 : ¬ (cap = i + 1) := by omega
  have hb4 : ¬ (cap = i) := by omega
  have hb3 : (i : Int) ≤ (zs.length : Int) + 1 := by omega
  go_enter Tryz.func236, Tryz.ntmps236
  go_wp2_with (simp only [hov])
  go_region_law (refine step_copy_runI rfl _ _ 28 28 rfl _ _ (by simp [Act.eval, Act.put]) (by simp [Act.eval, Act.put]) (hcp1' _ _ _) ?_)
  go_wp2_with fail
  go_ret
  refine ⟨b, off, cap, rfl, ?_, ?_, .inl rfl⟩
  · rw [← HW1.out] at Hm2
    exact Hm2.out.kept (Nat.le_refl _) rfl
  · rw [← HW1.out] at Hg2
    exact grown_trans Hg2.out (grown_drew _ _)

end Go.Proofs.YtnknnncehcofnaaGreatDoor
