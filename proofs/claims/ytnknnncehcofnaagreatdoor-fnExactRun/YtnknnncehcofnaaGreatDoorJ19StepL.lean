/- How long a right state's lists are; a state's owners beside a block that is none's. Lists of the call's own, each with its tag: written, cut, appended to, one beside the other. A list of the call's own is appended to: in its room, or in a new block. A state as lists of the call's own: how the lists hang together. -/
import Derived.Test.YtnknnncehcofnaaGreatDoorJ13RightP6
import Derived.Test.YtnknnncehcofnaaGreatDoorCopyI
import Derived.Deep.AppendSrc
import Derived.Test.YtnknnncehcofnaaGreatDoorStMarkS
namespace Go.Proofs.YtnknnncehcofnaaGreatDoor
open Go.RowKit

theorem FrOkI.short {p : List FnM} {fs : List FrM} {i : Nat} (hR : RightP p) (h : FrOkI p fs i) (hi : i < fs.length) : fs[i].stack.length ≤ 8 ∧ fs[i].locals.length ≤ 8 := by
  obtain ⟨f, h1, h2, hs, h3, h4⟩ := h
  rw [List.getElem?_eq_getElem hi] at h1
  have e : fs[i] = f := by simpa using h1
  rw [e]
  rw [inL_iff] at h2
  obtain ⟨k, hk⟩ := Int.eq_ofNat_of_zero_le h2.1
  rw [hk] at h2 h3
  have hkp : k < p.length := by omega
  obtain ⟨hs', b1, b2, b3, b4, b5, b6⟩ := hR.heights k hkp
  rw [Int.toNat_natCast] at h3
  have e2 : hs' = hs := by simpa using b1.unique h3
  subst e2
  obtain ⟨w1, _, _⟩ := (hR.all.2.2 k hkp).well rfl
  simp [formOk] at w1
  unfold standsI at h4
  rw [hk] at h4
  simp only [Bool.and_eq_true, decide_eq_true_eq] at h4
  obtain ⟨⟨⟨⟨a1, a2⟩, a3⟩, a4⟩, a5⟩ := h4
  have h8 := b5 f.pc.toNat (by omega)
  refine ⟨?_, by omega⟩
  cases hn : nextF fs i with
  | none => rw [hn] at a5; simp only [decide_eq_true_eq] at a5; omega
  | some g => rw [hn] at a5; simp only [Bool.and_eq_true, decide_eq_true_eq] at a5; omega

theorem StRightI.short {p : List FnM} {s : StM} (h : StRightI p s) : (∀ i (hi : i < s.frames.length), s.frames[i].stack.length ≤ 8 ∧ s.frames[i].locals.length ≤ 8) ∧ s.frames.length ≤ 10 ∧ (s.heap.length ≤ 30 ∧ ∀ i (hi : i < s.heap.length), s.heap[i].length ≤ 50) ∧ s.out.length ≤ 3000 := by
  obtain ⟨h1, h2, h3, h4⟩ := h
  rw [restOk_iff] at h2
  refine ⟨fun i hi => (h4 i hi).short h1 hi, ?_, ⟨h2.2.1.1, fun i hi => h2.2.1.2 _ (List.getElem_mem hi)⟩, by have := h2.2.2; have := h2.1; omega⟩
  unfold toldOk at h3
  split at h3
  · simp only [Bool.and_eq_true] at h3
    have := h3.1
    simp at this
    rw [this]; simp
  · simp at h3; omega

theorem StRightI.small {p : List FnM} {s : StM} (h : StRightI p s) : Small s := by
  obtain ⟨h1, _, ⟨_, h3⟩, h4⟩ := h.short
  exact ⟨fun i hi => by have := h1 i hi; omega, fun i hi => by have := h3 i hi; omega, by omega⟩

theorem StRightI.stk {p : List FnM} {s : StM} (h : StRightI p s) : ∀ g ∈ s.frames, g.stack.length ≤ 1048575 := by
  intro g hg
  obtain ⟨i, hi, e⟩ := List.getElem_of_mem hg
  have := (h.short.1 i hi).1
  rw [e] at this
  omega

theorem small_of_bulk {s : StM} (h : s.bulk ≤ 1048576) : Small s := by
  unfold StM.bulk bulkF bulkH at h
  refine ⟨fun i hi => ?_, fun i hi => ?_, by omega⟩
  · have h1 := sum_le FrM.bulk s.frames i hi
    have h2 : FrM.bulk s.frames[i] = s.frames[i].locals.length + s.frames[i].stack.length := rfl
    omega
  · have := sum_le List.length s.heap i hi
    omega

theorem OwnSt.ext {own own' : Nat → Nat → Tag} {B : Nat} {w : World} {x y z : Value} {s : StM} {X Y Z : Nat → Value} (h : OwnSt own B w x y z s X Y Z) (ho : ∀ b j, B ≤ b → b < w.heap.size → own' b j = own b j) : OwnSt own' B w x y z s X Y Z :=
  ⟨h.fr.ext ho, h.hp.ext ho, h.row, h.room.ext ho⟩
theorem OwnSt.lower {own : Nat → Nat → Tag} {B B' : Nat} {w : World} {x y z : Value} {s : StM} {X Y Z : Nat → Value} (h : OwnSt own B w x y z s X Y Z) (hB : B' ≤ B) : OwnSt own B' w x y z s X Y Z :=
  ⟨h.fr.lower hB, h.hp.lower hB, h.row.lower hB, h.room.lower hB⟩
theorem OwnSt.setLow {own : Nat → Nat → Tag} {B : Nat} {w : World} {x y z : Value} {s : StM} {X Y Z : Nat → Value} (h : OwnSt own B w x y z s X Y Z) {q : Addr} (hq : q.block < B) (u : Value) : OwnSt own B (w.setCell q u) x y z s X Y Z :=
  ⟨h.fr.setLow hq u, h.hp.setLow hq u, h.row.set hq u, h.room.setLow hq u⟩

/-- what a step tells of a state: the next one, where it is right and goes on; else the state itself -/
def StepIs (p : List FnM) (s s' : StM) : Prop := (StRightI p s ∧ goesM s = true ∧ s' = stepM p s) ∨ (¬ (StRightI p s ∧ goesM s = true) ∧ s' = s)

theorem StepIs.unique {p : List FnM} {s a b : StM} (h : StepIs p s a) (k : StepIs p s b) : a = b := by
  rcases h with ⟨h1, h2, h3⟩ | ⟨h1, h2⟩
  · rcases k with ⟨_, _, k3⟩ | ⟨k1, _⟩
    · rw [h3, k3]
    · exact absurd ⟨h1, h2⟩ k1
  · rcases k with ⟨k1, k2, _⟩ | ⟨_, k2⟩
    · exact absurd ⟨k1, k2⟩ h1
    · rw [h2, k2]
end Go.Proofs.YtnknnncehcofnaaGreatDoor

namespace Go.Proofs.YtnknnncehcofnaaGreatDoor
open Go.RowKit

/-- the slice v has these cells -/
def Holds (B : Nat) (w : World) (v : Value) (cs : List Value) (size : Nat) : Prop :=
  ∃ A n cap, v = .slice A n cap ∧ n ≤ cap ∧ cs.length = n * size ∧ ∀ j (h : j < cs.length), ∃ b off, A = some ⟨b, off, none⟩ ∧ B ≤ b ∧ b < w.heap.size ∧ w.cell? ⟨b, off + j, none⟩ = some cs[j]

def szT : Tag → Nat
  | .fr => 4
  | _ => 1

theorem szT_pos (t : Tag) : 0 < szT t := by cases t <;> simp [szT]

def upd {α : Type} (F : Tag → α) (t : Tag) (v : α) : Tag → α := fun q => if q = t then v else F q
theorem upd_at {α : Type} (F : Tag → α) (t : Tag) (v : α) : upd F t v t = v := if_pos rfl
theorem upd_far {α : Type} (F : Tag → α) {t q : Tag} (v : α) (h : q ≠ t) : upd F t v q = F q := if_neg h

/-- the lists of L, with their slices and their cells -/
structure OwnL (own : Nat → Nat → Tag) (B : Nat) (w : World) (L : Tag → Prop) (V : Tag → Value) (C : Tag → List Value) : Prop where
  row : ∀ t, L t → Holds B w (V t) (C t) (szT t)
  room : ∀ t, L t → Room own B w (V t) (szT t) t

theorem Holds.below {B size : Nat} {w w' : World} {v : Value} {cs : List Value} (h : Holds B w v cs size) (hb : Below w.heap.size w w') : Holds B w' v cs size := by
  obtain ⟨A, n, cap, rfl, hn, hl, hc⟩ := h
  refine ⟨A, n, cap, rfl, hn, hl, fun j hj => ?_⟩
  obtain ⟨b, off, h1, h2, h3, h4⟩ := hc j hj
  exact ⟨b, off, h1, h2, Nat.lt_of_lt_of_le h3 hb.size, by rw [hb.cell (by exact h3)]; exact h4⟩

theorem Holds.wrote {own : Nat → Nat → Tag} {B B' size : Nat} {w w' : World} {v : Value} {cs : List Value} {t : Tag} {S : Nat → Nat → Prop} (h : Holds B w v cs size) (hr : Room own B w v size t) (hw : Wrote B' S w w') (hS : ∀ b j, S b j → own b j ≠ t) : Holds B w' v cs size := by
  obtain ⟨A, n, cap, rfl, hn, hl, hc⟩ := h
  obtain ⟨A', n', cap', he, hn', hr⟩ := hr
  simp only [Value.slice.injEq] at he
  obtain ⟨rfl, rfl, rfl⟩ := he
  refine ⟨A, n, cap, rfl, hn, hl, fun j hj => ?_⟩
  obtain ⟨b, off, rfl, h1, h2, h3⟩ := hc j hj
  have hj' : j < cap * size := Nat.lt_of_lt_of_le (by rw [hl] at hj; exact hj) (Nat.mul_le_mul_right _ hn)
  obtain ⟨b', off', e, _, _, _, _, h6⟩ := hr j hj'
  simp only [Option.some.injEq, Addr.mk.injEq, and_true] at e
  obtain ⟨rfl, rfl⟩ := e
  exact ⟨b, off, rfl, h1, by rw [hw.size]; exact h2, by rw [hw.cell b (off + j) (fun hs => hS _ _ hs h6)]; exact h3⟩

theorem OwnL.below {own : Nat → Nat → Tag} {B : Nat} {w w' : World} {L : Tag → Prop} {V : Tag → Value} {C : Tag → List Value} (h : OwnL own B w L V C) (hb : Below w.heap.size w w') : OwnL own B w' L V C :=
  ⟨fun t ht => (h.row t ht).below hb, fun t ht => (h.room t ht).below hb⟩

/-- what is written is of no list -/
theorem OwnL.wrote {own : Nat → Nat → Tag} {B B' : Nat} {w w' : World} {L : Tag → Prop} {V : Tag → Value} {C : Tag → List Value} {S : Nat → Nat → Prop} (h : OwnL own B w L V C) (hw : Wrote B' S w w') (hS : ∀ b j, S b j → ∀ t, L t → own b j ≠ t) : OwnL own B w' L V C :=
  ⟨fun t ht => (h.row t ht).wrote (h.room t ht) hw (fun b j hs => hS b j hs t ht), fun t ht => (h.room t ht).wrote hw⟩

theorem OwnL.fewer {own : Nat → Nat → Tag} {B : Nat} {w : World} {L L' : Tag → Prop} {V : Tag → Value} {C : Tag → List Value} (h : OwnL own B w L V C) (hL : ∀ t, L' t → L t) : OwnL own B w L' V C :=
  ⟨fun t ht => h.row t (hL t ht), fun t ht => h.room t (hL t ht)⟩

/-- where a list's cell lies -/
theorem OwnL.at {own : Nat → Nat → Tag} {B : Nat} {w : World} {L : Tag → Prop} {V : Tag → Value} {C : Tag → List Value} (h : OwnL own B w L V C) {t : Tag} (ht : L t) {k : Nat} (hk : k < (C t).length) :
    ∃ b off n cap, V t = .slice (some ⟨b, off, none⟩) n cap ∧ n ≤ cap ∧ (C t).length = n * szT t ∧ B ≤ b ∧ b < w.heap.size ∧ w.cell? ⟨b, off + k, none⟩ = some (C t)[k] ∧ w.frozen? ⟨b, off + k, none⟩ = false ∧ own b (off + k) = t := by
  obtain ⟨A, n, cap, hv, hn, hl, hc⟩ := h.row t ht
  obtain ⟨A', n', cap', he, hn', hr⟩ := h.room t ht
  rw [hv] at he
  simp only [Value.slice.injEq] at he
  obtain ⟨rfl, rfl, rfl⟩ := he
  obtain ⟨b, off, rfl, h1, h2, h3⟩ := hc k hk
  have hk' : k < cap * szT t := Nat.lt_of_lt_of_le (by rw [hl] at hk; exact hk) (Nat.mul_le_mul_right _ hn)
  obtain ⟨b', off', e, _, _, _, h5, h6⟩ := hr k hk'
  simp only [Option.some.injEq, Addr.mk.injEq, and_true] at e
  obtain ⟨rfl, rfl⟩ := e
  exact ⟨b, off, n, cap, hv, hn, hl, h1, h2, h3, h5, h6⟩

/-- a cell of a list is written -/
theorem OwnL.set {own : Nat → Nat → Tag} {B : Nat} {w : World} {L : Tag → Prop} {V : Tag → Value} {C : Tag → List Value} (h : OwnL own B w L V C) {t : Tag} (ht : L t) {k b off n cap : Nat} (hk : k < (C t).length) (hv : V t = .slice (some ⟨b, off, none⟩) n cap) (u : Value) :
    OwnL own B (w.setCell ⟨b, off + k, none⟩ u) L V (upd C t ((C t).set k u)) ∧ Wrote B (fun b j => own b j = t) w (w.setCell ⟨b, off + k, none⟩ u) := by
  obtain ⟨b', off', n', cap', hv', hn, hl, hB, hlt, c0, _, ho⟩ := h.at ht hk
  rw [hv] at hv'
  simp only [Value.slice.injEq, Option.some.injEq, Addr.mk.injEq, and_true] at hv'
  obtain ⟨⟨rfl, rfl⟩, rfl, rfl⟩ := hv'
  have hw : Wrote B (fun b j => own b j = t) w (w.setCell ⟨b, off + k, none⟩ u) := Wrote.set _ _ _ _ ho hB
  refine ⟨⟨fun q hq => ?_, fun q hq => (h.room q hq).wrote hw⟩, hw⟩
  by_cases e : q = t
  · subst e
    rw [upd_at]
    obtain ⟨A, n2, cap2, hv2, _, _, hc⟩ := h.row q hq
    rw [hv] at hv2
    simp only [Value.slice.injEq] at hv2
    obtain ⟨rfl, rfl, rfl⟩ := hv2
    refine ⟨_, n, cap, hv, hn, by rw [List.length_set]; exact hl, fun j hj => ?_⟩
    have hj' : j < (C q).length := by simpa using hj
    obtain ⟨b2, off2, e2, h1, h2, h3⟩ := hc j hj'
    simp only [Option.some.injEq, Addr.mk.injEq, and_true] at e2
    obtain ⟨rfl, rfl⟩ := e2
    refine ⟨b, off, rfl, h1, by simpa using h2, ?_⟩
    by_cases ej : k = j
    · subst ej
      rw [World.cell?_setCell_same _ _ _ c0]; simp
    · rw [cell_set_far _ _ _ _ _ (by omega), h3]; simp [ej]
  · rw [upd_far _ _ e]
    exact (h.row q hq).wrote (h.room q hq) hw (fun b j hs => by rw [hs]; exact fun k => e k.symm)

/-- a list is cut: its slice ends before -/
theorem OwnL.cut {own : Nat → Nat → Tag} {B : Nat} {w : World} {L : Tag → Prop} {V : Tag → Value} {C : Tag → List Value} (h : OwnL own B w L V C) {t : Tag} {A : Option Addr} {n cap : Nat} (k : Nat) (hk : k ≤ n) (hv : V t = .slice A n cap) :
    OwnL own B w L (upd V t (.slice A k cap)) (upd C t ((C t).take (k * szT t))) := by
  refine ⟨fun q hq => ?_, fun q hq => ?_⟩
  · by_cases e : q = t
    · subst e
      rw [upd_at, upd_at]
      obtain ⟨A', n', cap', hv', hn, hl, hc⟩ := h.row q hq
      rw [hv] at hv'
      simp only [Value.slice.injEq] at hv'
      obtain ⟨rfl, rfl, rfl⟩ := hv'
      refine ⟨A, k, cap, rfl, Nat.le_trans hk hn, ?_, fun j hj => ?_⟩
      · rw [List.length_take, hl, Nat.min_eq_left (Nat.mul_le_mul_right _ hk)]
      · have hj' : j < (C q).length := by rw [List.length_take] at hj; omega
        obtain ⟨b, off, h1, h2, h3, h4⟩ := hc j hj'
        exact ⟨b, off, h1, h2, h3, by rw [h4]; simp⟩
    · rw [upd_far _ _ e, upd_far _ _ e]; exact h.row q hq
  · by_cases e : q = t
    · subst e
      rw [upd_at]
      obtain ⟨A', n', cap', he, hn', hr⟩ := h.room q hq
      rw [hv] at he
      simp only [Value.slice.injEq] at he
      obtain ⟨rfl, rfl, rfl⟩ := he
      exact ⟨A, k, cap, rfl, Nat.le_trans hk hn', hr⟩
    · rw [upd_far _ _ e]; exact h.room q hq

/-- all blocks from U on are of one list -/
def ownTo (U : Nat) (own : Nat → Nat → Tag) (t : Tag) : Nat → Nat → Tag := fun b j => if b < U then own b j else t

theorem Room.to {own : Nat → Nat → Tag} {B size U : Nat} {w : World} {v : Value} {q : Tag} (t : Tag) (h : Room own B w v size q) (hU : w.heap.size ≤ U) : Room (ownTo U own t) B w v size q := by
  obtain ⟨A, n, cap, rfl, hn, hr⟩ := h
  refine ⟨A, n, cap, rfl, hn, fun j hj => ?_⟩
  obtain ⟨b, off, h1, h2, h3, h4, h5, h6⟩ := hr j hj
  exact ⟨b, off, h1, h2, h3, h4, h5, by show (if b < U then _ else _) = _; rw [if_pos (by omega)]; exact h6⟩

/-- a new list beside them -/
theorem OwnL.add {own : Nat → Nat → Tag} {B U : Nat} {w w' : World} {L : Tag → Prop} {V : Tag → Value} {C : Tag → List Value} (h : OwnL own B w L V C) (hU : w.heap.size ≤ U) (hb : Below w.heap.size w w') (t : Tag) (v : Value) (cs : List Value)
    (hr : Holds U w' v cs (szT t)) (hR : Room (fun _ _ => t) U w' v (szT t) t) (hB : B ≤ U) : OwnL (ownTo U own t) B w' (fun q => q = t ∨ L q) (upd V t v) (upd C t cs) := by
  have h' := h.below hb
  refine ⟨fun q hq => ?_, fun q hq => ?_⟩
  · by_cases e : q = t
    · subst e
      rw [upd_at, upd_at]
      obtain ⟨A, n, cap, e1, e2, e3, hc⟩ := hr
      refine ⟨A, n, cap, e1, e2, e3, fun j hj => ?_⟩
      obtain ⟨b, off, h1, h2, h3⟩ := hc j hj
      exact ⟨b, off, h1, Nat.le_trans hB h2, h3⟩
    · rw [upd_far _ _ e, upd_far _ _ e]
      exact h'.row q (hq.resolve_left e)
  · by_cases e : q = t
    · subst e
      rw [upd_at]
      obtain ⟨A, n, cap, e1, e2, hc⟩ := hR
      refine ⟨A, n, cap, e1, e2, fun j hj => ?_⟩
      obtain ⟨b, off, h1, h2, h3, h4, h5, _⟩ := hc j hj
      exact ⟨b, off, h1, Nat.le_trans hB h2, h3, h4, h5, by show (if b < U then _ else _) = _; rw [if_neg (by omega)]⟩
    · rw [upd_far _ _ e]
      exact ((h.room q (hq.resolve_left e)).to t hU).below hb
end Go.Proofs.YtnknnncehcofnaaGreatDoor

namespace Go.Proofs.YtnknnncehcofnaaGreatDoor
open Go.RowKit

theorem Wrote.setCells {B : Nat} {S : Nat → Nat → Prop} (b : Nat) (hB : B ≤ b) : ∀ (vs : List Value) (o : Nat) (w : World), (∀ j, j < vs.length → S b (o + j)) → Wrote B S w (w.setCells b o vs)
  | [], o, w, _ => Wrote.refl B S w
  | v :: vs, o, w, h => by
    have h1 : Wrote B S w (w.setCell ⟨b, o, none⟩ v) := Wrote.set w b o v (by have := h 0 (by simp); rwa [Nat.add_zero] at this) hB
    have h2 := Wrote.setCells (S := S) b hB vs (o + 1) (w.setCell ⟨b, o, none⟩ v) (fun j hj => by have := h (j + 1) (by simpa using hj); rwa [show o + 1 + j = o + (j + 1) by omega])
    exact h1.trans h2

/-- what an append to the list t does: nothing is changed but cells of t -/
structure DidT (own own' : Nat → Nat → Tag) (B : Nat) (t : Tag) (w w' : World) : Prop where
  below : Below B w w'
  same : ∀ b j, b < w.heap.size → own' b j = own b j
  cell : ∀ b j, b < w.heap.size → own b j ≠ t → w'.cell? ⟨b, j, none⟩ = w.cell? ⟨b, j, none⟩ ∧ w'.frozen? ⟨b, j, none⟩ = w.frozen? ⟨b, j, none⟩

theorem OwnL.append {own : Nat → Nat → Tag} {B : Nat} {w : World} {L : Tag → Prop} {V : Tag → Value} {C : Tag → List Value} (h : OwnL own B w L V C) (hB : B ≤ w.heap.size) {t : Tag} (ht : L t)
    (T e ty tx : TypeId) (i : TypeInfo) (z : Value) (hT : Tryz.prog.underlying T = some (.slice e)) (hi : Tryz.prog.info? e = some i) (hz : i.zero = some z) (hsz : i.size = szT t) (hzs : z.cells.size = szT t) (hby : i.bytes ≤ 1000)
    {A : Option Addr} {n cap : Nat} (hv : V t = .slice A n cap) (x : Value) (m : Nat) (news : List Value) (hs : Src Tryz.prog i.size tx x m news w) (hm : 0 < m) (hn : n + m ≤ 4194304) :
    ∃ b off cap' w' own', (Builtin.append_ #[T, tx] ty #[V t, x]).run Tryz.prog w = .ok (.slice (some ⟨b, off, none⟩) (n + m) cap') w' ∧
      OwnL own' B w' L (upd V t (.slice (some ⟨b, off, none⟩) (n + m) cap')) (upd C t (C t ++ news)) ∧ DidT own own' B t w w' ∧ (n + m ≤ cap → cap' = cap ∧ A = some ⟨b, off, none⟩ ∧ w'.heap.size = w.heap.size) := by
  obtain ⟨A', n', cap', hv', hnc, hl, hc⟩ := h.row t ht
  obtain ⟨A2, n2, cap2, he, _, hr⟩ := h.room t ht
  rw [hv] at hv' he
  simp only [Value.slice.injEq] at hv' he
  obtain ⟨rfl, rfl, rfl⟩ := hv'
  obtain ⟨rfl, rfl, rfl⟩ := he
  have hpos := szT_pos t
  have hnl : news.length = m * szT t := by rw [← hsz]; exact hs.newsLen
  by_cases hroom : n + m ≤ cap
  · have hcp : 0 < cap * szT t := Nat.mul_pos (by omega) hpos
    obtain ⟨b, off, rfl, hBb, hlt, _⟩ := hr 0 hcp
    have hin : ∀ j, j < news.length → n * szT t + j < cap * szT t := fun j hj => by
      have h1 : (n + m) * szT t ≤ cap * szT t := Nat.mul_le_mul_right _ hroom
      rw [Nat.add_mul] at h1
      omega
    have hall : ∀ j, j < news.length → (w.cell? ⟨b, off + n * szT t + j, none⟩).isSome = true ∧ w.frozen? ⟨b, off + n * szT t + j, none⟩ = false ∧ own b (off + n * szT t + j) = t := fun j hj => by
      obtain ⟨b', off', e', _, _, h4, h5, h6⟩ := hr (n * szT t + j) (hin j hj)
      simp only [Option.some.injEq, Addr.mk.injEq, and_true] at e'
      obtain ⟨rfl, rfl⟩ := e'
      rw [← Nat.add_assoc] at h4 h5 h6
      exact ⟨h4, h5, h6⟩
    have hrun := run_append_room_src (P := Tryz.prog) w T tx ty e i hT hi b off n cap x m news hs hroom (by rw [hsz]; exact fun j hj => (hall j hj).1) (by rw [hsz]; exact fun j hj => (hall j hj).2.1)
    rw [hsz] at hrun
    have hw : Wrote B (fun b j => own b j = t) w (w.setCells b (off + n * szT t) news) := Wrote.setCells b hBb news _ w (fun j hj => (hall j hj).2.2)
    refine ⟨b, off, cap, _, own, by rw [hv]; exact hrun, ⟨fun q hq => ?_, fun q hq => ?_⟩, ⟨hw.below, fun _ _ _ => rfl, fun b' j _ ho => ⟨hw.cell _ _ ho, hw.thaw _ _⟩⟩, fun _ => ⟨rfl, rfl, hw.size⟩⟩
    · by_cases eq : q = t
      · subst eq
        rw [upd_at, upd_at]
        refine ⟨_, n + m, cap, rfl, hroom, by rw [List.length_append, hl, hnl, Nat.add_mul], fun j hj => ⟨b, off, rfl, hBb, by rw [hw.size]; exact hlt, ?_⟩⟩
        by_cases hj1 : j < (C q).length
        · obtain ⟨b', off', e', _, _, h4⟩ := hc j hj1
          simp only [Option.some.injEq, Addr.mk.injEq, and_true] at e'
          obtain ⟨rfl, rfl⟩ := e'
          rw [World.cell?_setCells_out b news _ w ⟨b, off + j, none⟩ (fun _ _ => .inl (by show off + j < off + n * szT q; omega)), h4, List.getElem_append_left hj1]
        · have hj2 : j - (C q).length < news.length := by rw [List.length_append] at hj; omega
          have := World.cell?_setCells_in b news (off + n * szT q) w (fun j hj => (hall j hj).1) (j - (C q).length) hj2
          rw [show off + n * szT q + (j - (C q).length) = off + j by omega] at this
          rw [this, List.getElem_append_right (by omega)]
      · rw [upd_far _ _ eq, upd_far _ _ eq]
        exact (h.row q hq).wrote (h.room q hq) hw (fun b j hs => by rw [hs]; exact fun k => eq k.symm)
    · by_cases eq : q = t
      · subst eq
        rw [upd_at]
        refine ⟨_, n + m, cap, rfl, hroom, fun j hj => ?_⟩
        obtain ⟨b', off', e', h2, h3, h4, h5, h6⟩ := hr j hj
        simp only [Option.some.injEq, Addr.mk.injEq, and_true] at e'
        obtain ⟨rfl, rfl⟩ := e'
        exact ⟨b, off, rfl, h2, by rw [hw.size]; exact h3, hw.is _ _ h4, by rw [hw.thaw]; exact h5, h6⟩
      · rw [upd_far _ _ eq]
        exact (h.room q hq).wrote hw
  · have hold : (Builtin.firstCells i.size n (.slice A n cap)).run Tryz.prog w.drew = .ok (C t).toArray w.drew := by
      by_cases h0 : n = 0
      · subst h0
        have hC0 : C t = [] := List.eq_nil_of_length_eq_zero (by rw [hl]; simp)
        rw [hC0]
        cases A with
        | none => exact run_firstCells_none w.drew i.size 0 0 cap
        | some ad => exact run_firstCells_some w.drew i.size 0 ad 0 cap [] (by simp) (fun j v hj => by simp at hj)
      · have hp : 0 < (C t).length := by rw [hl]; exact Nat.mul_pos (by omega) hpos
        obtain ⟨b, off, rfl, _⟩ := hc 0 hp
        refine run_firstCells_some w.drew i.size n ⟨b, off, none⟩ n cap (C t) (by rw [hl, hsz]) (fun j v hj => ?_)
        obtain ⟨hj1, hj2⟩ := List.getElem?_eq_some_iff.1 hj
        obtain ⟨b', off', e', _, _, h4⟩ := hc j hj1
        simp only [Option.some.injEq, Addr.mk.injEq, and_true] at e'
        obtain ⟨rfl, rfl⟩ := e'
        rw [Addr.add_lit]
        simpa [hj2] using h4
    have hbytes : (n + m) * i.bytes ≤ 140737488355328 := Nat.le_trans (Nat.mul_le_mul hn hby) (by decide)
    have hrun := run_append_grow_src (P := Tryz.prog) w T tx ty e i z hT hi hz A n cap (C t) hold x m news hs (by omega) (by omega) (growslice_fits (by omega) hbytes)
    have hge := grownCap_ge w (n + m) cap e
    obtain ⟨gc, hgc⟩ : ∃ gc, gc = grownCap w (n + m) cap e := ⟨_, rfl⟩
    rw [← hgc] at hrun hge
    obtain ⟨w', hw'⟩ : ∃ w', w' = w.drew.alloc (.cells (((C t) ++ news).toArray ++ Builtin.zeroCells z.cells (gc - (n + m))) e) := ⟨_, rfl⟩
    rw [← hw'] at hrun
    have hlen : ((C t) ++ news).length = (n + m) * szT t := by rw [List.length_append, hl, hnl, Nat.add_mul]
    have hsize : (((C t) ++ news).toArray ++ Builtin.zeroCells z.cells (gc - (n + m))).size = gc * szT t := by
      rw [Array.size_append, List.size_toArray, size_zeroCells, hzs, hlen, ← Nat.add_mul]
      rw [show n + m + (gc - (n + m)) = gc by omega]
    have hbel : Below w.heap.size w w' := by rw [hw']; exact (Below.refl _ _).drew.alloc (Nat.le_refl _) _
    have hnew : ∀ j, w'.cell? ⟨w.heap.size, j, none⟩ = (((C t) ++ news).toArray ++ Builtin.zeroCells z.cells (gc - (n + m)))[j]? := fun j => by
      rw [hw']; exact World.cell?_alloc_mark w.drew _ _ _ _
    have hfz : ∀ j, w'.frozen? ⟨w.heap.size, j, none⟩ = false := fun j => by
      rw [hw']
      exact World.frozen?_alloc_at _ _ _ _ rfl
    have hlt' : w.heap.size < w'.heap.size := by rw [hw']; simp
    refine ⟨w.heap.size, 0, gc, w', ownTo w.heap.size own t, by rw [hv]; exact hrun, ⟨fun q hq => ?_, fun q hq => ?_⟩, ⟨hbel.mono hB, fun b j hb => if_pos hb, fun b j hb _ => ⟨hbel.cell (by exact hb), hbel.frozen (by exact hb)⟩⟩, fun hh => absurd hh hroom⟩
    · by_cases eq : q = t
      · subst eq
        rw [upd_at, upd_at]
        refine ⟨_, n + m, gc, rfl, hge, hlen, fun j hj => ⟨w.heap.size, 0, rfl, hB, hlt', ?_⟩⟩
        rw [Nat.zero_add, hnew, Array.getElem?_append_left (by simpa using hj)]
        simp
      · rw [upd_far _ _ eq, upd_far _ _ eq]
        exact (h.row q hq).below hbel
    · by_cases eq : q = t
      · subst eq
        rw [upd_at]
        refine ⟨_, n + m, gc, rfl, hge, fun j hj => ⟨w.heap.size, 0, rfl, hB, hlt', ?_, ?_, ?_⟩⟩
        · rw [Nat.zero_add, hnew, Array.getElem?_eq_getElem (by rw [hsize]; exact hj)]; rfl
        · exact hfz _
        · show (if w.heap.size < w.heap.size then _ else q) = q
          rw [if_neg (by omega)]
      · rw [upd_far _ _ eq]
        exact ((h.room q hq).to t (Nat.le_refl _)).below hbel
end Go.Proofs.YtnknnncehcofnaaGreatDoor

namespace Go.Proofs.YtnknnncehcofnaaGreatDoor
open Go.RowKit

/-- the lists that a state has -/
def liveT (s : StM) : Tag → Prop
  | .no => False
  | .fr => True
  | .hp => True
  | .out => True
  | .loc i => i < s.frames.length
  | .stk i => i < s.frames.length
  | .arr i => i < s.heap.length

/-- the four cells of frame i -/
def frCells (V : Tag → Value) (i : Nat) (f : FrM) : List Value := [.int .i64 f.func, .int .i64 f.pc, V (.loc i), V (.stk i)]
def frAll (V : Tag → Value) : Nat → List FrM → List Value
  | _, [] => []
  | i, f :: fs => frCells V i f ++ frAll V (i + 1) fs

theorem frAll_length (V : Tag → Value) : ∀ (i : Nat) (fs : List FrM), (frAll V i fs).length = fs.length * 4
  | _, [] => rfl
  | i, f :: fs => by
    show (frCells V i f ++ frAll V (i + 1) fs).length = _
    rw [List.length_append, frAll_length V (i + 1) fs]
    simp [frCells]
    omega

theorem frAll_append (V : Tag → Value) : ∀ (i : Nat) (fs gs : List FrM), frAll V i (fs ++ gs) = frAll V i fs ++ frAll V (i + fs.length) gs
  | i, [], gs => rfl
  | i, f :: fs, gs => by
    show frCells V i f ++ frAll V (i + 1) (fs ++ gs) = frCells V i f ++ frAll V (i + 1) fs ++ _
    rw [frAll_append V (i + 1) fs gs, List.append_assoc]
    congr 3
    simp
    omega

theorem frAll_congr {V V' : Tag → Value} : ∀ (i : Nat) (fs : List FrM), (∀ k, i ≤ k → k < i + fs.length → V' (.loc k) = V (.loc k) ∧ V' (.stk k) = V (.stk k)) → frAll V' i fs = frAll V i fs
  | _, [], _ => rfl
  | i, f :: fs, h => by
    show frCells V' i f ++ frAll V' (i + 1) fs = frCells V i f ++ frAll V (i + 1) fs
    have h0 := h i (Nat.le_refl _) (by simp)
    rw [frAll_congr (i + 1) fs (fun k h1 h2 => h k (by omega) (by simp; omega))]
    unfold frCells
    rw [h0.1, h0.2]

/-- what the lists' cells are -/
structure LinkS (V : Tag → Value) (C : Tag → List Value) (s : StM) : Prop where
  fr : C .fr = frAll V 0 s.frames
  hp : C .hp = (List.range s.heap.length).map fun i => V (.arr i)
  out : C .out = ints s.out
  loc : ∀ i (h : i < s.frames.length), C (.loc i) = ints s.frames[i].locals
  stk : ∀ i (h : i < s.frames.length), C (.stk i) = ints s.frames[i].stack
  arr : ∀ i (h : i < s.heap.length), C (.arr i) = ints s.heap[i]
  len : s.frames.length ≤ 1048576 ∧ s.heap.length ≤ 1048576

theorem Holds.of_irow {B : Nat} {w : World} {v : Value} {zs : List Int} {own : Nat → Nat → Tag} {t : Tag} (h : IRow B w v zs) (hr : Room own B w v 1 t) : Holds B w v (ints zs) 1 := by
  obtain ⟨A, cap, rfl, hn, hc⟩ := h
  obtain ⟨A', n', cap', he, hn', _⟩ := hr
  simp only [Value.slice.injEq] at he
  obtain ⟨rfl, rfl, rfl⟩ := he
  refine ⟨A, _, cap, rfl, hn', by rw [ints_length, Nat.mul_one], fun j hj => ?_⟩
  rw [ints_length] at hj
  obtain ⟨b, off, h1, h2, h3, h4⟩ := hc j hj
  exact ⟨b, off, h1, h2, h3, by rw [h4]; simp [ints]⟩

theorem Holds.irow {B : Nat} {w : World} {v : Value} {zs : List Int} (h : Holds B w v (ints zs) 1) (hn : zs.length ≤ 9223372036854775807) : IRow B w v zs := by
  obtain ⟨A, n, cap, rfl, _, hl, hc⟩ := h
  rw [ints_length, Nat.mul_one] at hl
  subst hl
  refine ⟨A, cap, rfl, hn, fun j hj => ?_⟩
  obtain ⟨b, off, h1, h2, h3, h4⟩ := hc j (by rw [ints_length]; exact hj)
  exact ⟨b, off, h1, h2, h3, by rw [h4]; simp [ints]⟩

theorem frAll_at (V : Tag → Value) : ∀ (i : Nat) (fs : List FrM) (k : Nat) (h : k < fs.length) (q : Nat) (_ : q < 4), (frAll V i fs)[k * 4 + q]? = (frCells V (i + k) fs[k])[q]?
  | i, f :: fs, 0, _, q, hq => by
    show (frCells V i f ++ frAll V (i + 1) fs)[0 * 4 + q]? = _
    rw [List.getElem?_append_left (by simp [frCells]; omega)]
    simp
  | i, f :: fs, k + 1, h, q, hq => by
    show (frCells V i f ++ frAll V (i + 1) fs)[(k + 1) * 4 + q]? = _
    rw [List.getElem?_append_right (by simp [frCells]; omega)]
    have := frAll_at V (i + 1) fs k (by simpa using h) q hq
    rw [show (k + 1) * 4 + q - (frCells V i f).length = k * 4 + q by simp [frCells]; omega, this]
    simp only [List.getElem_cons_succ]
    rw [show i + 1 + k = i + (k + 1) by omega]

/-- slices and cells of a state that owns its lists -/
def slOf (x y z : Value) (X Y Z : Nat → Value) : Tag → Value
  | .no => .slice none 0 0
  | .fr => x
  | .hp => y
  | .out => z
  | .loc i => X i
  | .stk i => Y i
  | .arr i => Z i
def clOf (V : Tag → Value) (s : StM) : Tag → List Value
  | .no => []
  | .fr => frAll V 0 s.frames
  | .hp => (List.range s.heap.length).map fun i => V (.arr i)
  | .out => ints s.out
  | .loc i => ints ((s.frames[i]?).map FrM.locals).toList.flatten
  | .stk i => ints ((s.frames[i]?).map FrM.stack).toList.flatten
  | .arr i => ints (s.heap[i]?).toList.flatten

theorem OwnSt.lists {own : Nat → Nat → Tag} {B : Nat} {w : World} {x y z : Value} {s : StM} {X Y Z : Nat → Value} (h : OwnSt own B w x y z s X Y Z) :
    OwnL own B w (liveT s) (slOf x y z X Y Z) (clOf (slOf x y z X Y Z) s) ∧ LinkS (slOf x y z X Y Z) (clOf (slOf x y z X Y Z) s) s := by
  have hl : ∀ i (h : i < s.frames.length), clOf (slOf x y z X Y Z) s (.loc i) = ints s.frames[i].locals := fun i hi => by simp [clOf, hi]
  have hk : ∀ i (h : i < s.frames.length), clOf (slOf x y z X Y Z) s (.stk i) = ints s.frames[i].stack := fun i hi => by simp [clOf, hi]
  have ha : ∀ i (h : i < s.heap.length), clOf (slOf x y z X Y Z) s (.arr i) = ints s.heap[i] := fun i hi => by simp [clOf, hi]
  refine ⟨⟨fun t ht => ?_, fun t ht => ?_⟩, ⟨rfl, rfl, rfl, hl, hk, ha, h.fr.len, h.hp.len⟩⟩
  · cases t with
    | no => exact absurd ht id
    | fr =>
      obtain ⟨A, cap, hx⟩ := h.fr.form
      obtain ⟨A', n', cap', he, hn', hr⟩ := h.fr.room
      rw [hx] at he
      simp only [Value.slice.injEq] at he
      obtain ⟨rfl, rfl, rfl⟩ := he
      refine ⟨A, _, cap, hx, hn', frAll_length _ _ _, fun j hj => ?_⟩
      have hj' : j < s.frames.length * 4 := by have := hj; rw [show clOf (slOf x y z X Y Z) s .fr = frAll (slOf x y z X Y Z) 0 s.frames from rfl, frAll_length] at this; exact this
      have hi : j / 4 < s.frames.length := by omega
      obtain ⟨b, off, cap2, e, h1, h2, h3, h4, h5, h6, _⟩ := h.fr.at (j / 4) hi
      rw [hx] at e
      simp only [Value.slice.injEq] at e
      obtain ⟨rfl, _, rfl⟩ := e
      refine ⟨b, off, rfl, h1, h2, ?_⟩
      have hat := frAll_at (slOf x y z X Y Z) 0 s.frames (j / 4) hi (j % 4) (Nat.mod_lt _ (by omega))
      rw [show j / 4 * 4 + j % 4 = j by omega, Nat.zero_add] at hat
      have hget : (clOf (slOf x y z X Y Z) s .fr)[j]? = some (clOf (slOf x y z X Y Z) s .fr)[j] := List.getElem?_eq_getElem hj
      rw [← hget, show (clOf (slOf x y z X Y Z) s .fr)[j]? = (frAll (slOf x y z X Y Z) 0 s.frames)[j]? from rfl, hat]
      have hq : j % 4 = 0 ∨ j % 4 = 1 ∨ j % 4 = 2 ∨ j % 4 = 3 := by omega
      rcases hq with hq | hq | hq | hq
      · rw [hq, show off + j = off + j / 4 * 4 by omega, h3]; rfl
      · rw [hq, show off + j = off + j / 4 * 4 + 1 by omega, h4]; rfl
      · rw [hq, show off + j = off + j / 4 * 4 + 2 by omega, h5]; rfl
      · rw [hq, show off + j = off + j / 4 * 4 + 3 by omega, h6]; rfl
    | hp =>
      obtain ⟨A, cap, hx⟩ := h.hp.form
      obtain ⟨A', n', cap', he, hn', hr⟩ := h.hp.room
      rw [hx] at he
      simp only [Value.slice.injEq] at he
      obtain ⟨rfl, rfl, rfl⟩ := he
      refine ⟨A, _, cap, hx, hn', by simp [clOf, szT], fun j hj => ?_⟩
      have hj' : j < s.heap.length := by simpa [clOf] using hj
      obtain ⟨b, off, cap2, e, h1, h2, h3, _⟩ := h.hp.at j hj'
      rw [hx] at e
      simp only [Value.slice.injEq] at e
      obtain ⟨rfl, _, rfl⟩ := e
      exact ⟨b, off, rfl, h1, h2, by rw [h3]; simp [clOf, slOf]⟩
    | out => exact Holds.of_irow h.row h.room
    | loc i => rw [hl i ht]; exact Holds.of_irow (h.fr.loc i ht).1 (h.fr.loc i ht).2
    | stk i => rw [hk i ht]; exact Holds.of_irow (h.fr.stk i ht).1 (h.fr.stk i ht).2
    | arr i => rw [ha i ht]; exact Holds.of_irow (h.hp.arr i ht).1 (h.hp.arr i ht).2
  · cases t with
    | no => exact absurd ht id
    | fr => exact h.fr.room
    | hp => exact h.hp.room
    | out => exact h.room
    | loc i => exact (h.fr.loc i ht).2
    | stk i => exact (h.fr.stk i ht).2
    | arr i => exact (h.hp.arr i ht).2

theorem Holds.len {B size : Nat} {w : World} {v : Value} {cs : List Value} (h : Holds B w v cs size) {A : Option Addr} {n cap : Nat} (hv : v = .slice A n cap) : cs.length = n * size ∧ n ≤ cap := by
  obtain ⟨A', n', cap', e, hn, hl, _⟩ := h
  rw [hv] at e
  simp only [Value.slice.injEq] at e
  obtain ⟨rfl, rfl, rfl⟩ := e
  exact ⟨hl, hn⟩

theorem Holds.form {B size : Nat} {w : World} {v : Value} {cs : List Value} (h : Holds B w v cs size) : ∃ A n cap, v = .slice A n cap := let ⟨A, n, cap, e, _⟩ := h; ⟨A, n, cap, e⟩

/-- back: the lists make a state of the call's own -/
theorem OwnL.state {own : Nat → Nat → Tag} {B : Nat} {w : World} {V : Tag → Value} {C : Tag → List Value} {s : StM} (h : OwnL own B w (liveT s) V C) (k : LinkS V C s) (hs : Small s) :
    OwnSt own B w (V .fr) (V .hp) (V .out) s (fun i => V (.loc i)) (fun i => V (.stk i)) (fun i => V (.arr i)) := by
  obtain ⟨s1, s2, s3⟩ := hs
  have ho : Holds B w (V .out) (ints s.out) 1 := by have := h.row .out trivial; rw [k.out] at this; exact this
  obtain ⟨Af, nf, cf, hvf⟩ := (h.row .fr trivial).form
  have hlf := (h.row .fr trivial).len hvf
  rw [k.fr, frAll_length] at hlf
  have hnf : nf = s.frames.length := by have := hlf.1; simp only [szT] at this; omega
  subst hnf
  obtain ⟨Ah, nh, ch, hvh⟩ := (h.row .hp trivial).form
  have hlh := (h.row .hp trivial).len hvh
  rw [k.hp] at hlh
  simp [szT] at hlh
  obtain ⟨rfl, hlh⟩ := hlh
  refine ⟨⟨k.len.1, ⟨Af, cf, hvf⟩, h.room .fr trivial, fun i hi => ?_, fun i hi => ?_, fun i hi => ?_⟩, ⟨k.len.2, ⟨Ah, ch, hvh⟩, h.room .hp trivial, fun i hi => ?_, fun i hi => ?_⟩, ho.irow (by omega), h.room .out trivial⟩
  · have hlen : (C .fr).length = s.frames.length * 4 := by rw [k.fr, frAll_length]
    obtain ⟨b, off, n, cap, hv, _, _, _, _, _⟩ := h.at (t := .fr) trivial (k := i * 4) (by omega)
    have hc : ∀ q, q < 4 → w.cell? ⟨b, off + i * 4 + q, none⟩ = (frCells V i s.frames[i])[q]? := fun q hq => by
      obtain ⟨b', off', n', cap', hv', _, _, _, _, c0, _⟩ := h.at (t := .fr) trivial (k := i * 4 + q) (by omega)
      rw [hv] at hv'
      simp only [Value.slice.injEq, Option.some.injEq, Addr.mk.injEq, and_true] at hv'
      obtain ⟨⟨rfl, rfl⟩, _⟩ := hv'
      have hat := frAll_at V 0 s.frames i hi q hq
      rw [Nat.zero_add] at hat
      rw [Nat.add_assoc, c0, ← hat, ← k.fr]
      exact (List.getElem?_eq_getElem _).symm
    rw [hvf] at hv
    simp only [Value.slice.injEq] at hv
    obtain ⟨rfl, rfl, rfl⟩ := hv
    exact ⟨b, off, cf, hvf, hc 0 (by omega), hc 1 (by omega), hc 2 (by omega), hc 3 (by omega)⟩
  · have := h.row (.loc i) hi
    rw [k.loc i hi] at this
    exact ⟨Holds.irow this (by have := (s1 i hi).1; omega), h.room (.loc i) hi⟩
  · have := h.row (.stk i) hi
    rw [k.stk i hi] at this
    exact ⟨Holds.irow this (by have := (s1 i hi).2; omega), h.room (.stk i) hi⟩
  · have hlen : (C .hp).length = s.heap.length := by rw [k.hp]; simp
    obtain ⟨b, off, n, cap, hv, _, _, _, _, c0, _⟩ := h.at (t := .hp) trivial (k := i) (by omega)
    rw [hvh] at hv
    simp only [Value.slice.injEq] at hv
    obtain ⟨rfl, rfl, rfl⟩ := hv
    refine ⟨b, off, ch, hvh, ?_⟩
    rw [c0]
    have : (C .hp)[i]? = some (V (.arr i)) := by rw [k.hp]; simp [hi]
    rw [List.getElem?_eq_getElem (by omega)] at this
    exact this
  · have := h.row (.arr i) hi
    rw [k.arr i hi] at this
    exact ⟨Holds.irow this (by have := s2 i hi; omega), h.room (.arr i) hi⟩
end Go.Proofs.YtnknnncehcofnaaGreatDoor
