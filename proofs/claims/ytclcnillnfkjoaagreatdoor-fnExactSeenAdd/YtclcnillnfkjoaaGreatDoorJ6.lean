/- Profiles as what they tell of each place: put, sorted, unique. A map whose keys are structs of two numbers, ranged over; entries struck on the way. -/
import Derived.Test.YtclcnillnfkjoaaGreatDoorSeenP
import Derived.Test.YtclcnillnfkjoaaGreatDoorMapS
import Derived.Maps.RangeWalk
import Derived.Maps.OwnIn
import Derived.RangeFuncSeq
namespace Go.Proofs.YtclcnillnfkjoaaGreatDoor
open Go.RowKit

/-- what was seen, by place -/
abbrev TMap := Int × Int → Int × Int

def plT (l : PL) : TMap := fun k => (findP k l).getD (0, 0)

def addT (T : TMap) (k c : Int × Int) : TMap := fun x => if x = k then (min ((T k).1 + c.1) 1000000, min ((T k).2 + c.2) 1000000) else T x

/-- a list tells T: it rises, and has just the places at which T is not none -/
structure TellsT (l : List SnM) (T : TMap) : Prop where
  rises : l.Pairwise snLess
  has : ∀ s : SnM, s ∈ l ↔ (T (s.func, s.pc) = (s.went, s.past) ∧ (s.went, s.past) ≠ ((0, 0) : Int × Int))

theorem snLess_trans {a b c : SnM} (h : snLess a b) (k : snLess b c) : snLess a c := by unfold snLess at *; omega
theorem snLess_irrefl {a : SnM} : ¬ snLess a a := by unfold snLess; omega
theorem snLess_asymm {a b : SnM} (h : snLess a b) : ¬ snLess b a := by unfold snLess at *; omega

theorem rises_unique : ∀ {a b : List SnM}, a.Pairwise snLess → b.Pairwise snLess → (∀ s, s ∈ a ↔ s ∈ b) → a = b
  | [], [], _, _, _ => rfl
  | [], y :: b, _, _, h => by have := (h y).2 (by simp); simp at this
  | x :: a, [], _, _, h => by have := (h x).1 (by simp); simp at this
  | x :: a, y :: b, ha, hb, h => by
    obtain ⟨hx, ha'⟩ := List.pairwise_cons.1 ha
    obtain ⟨hy, hb'⟩ := List.pairwise_cons.1 hb
    have e : x = y := by
      rcases List.mem_cons.1 ((h x).1 (by simp)) with e | h1
      · exact e
      rcases List.mem_cons.1 ((h y).2 (by simp)) with e | h2
      · exact e.symm
      exact absurd (hx y h2) (snLess_asymm (hy x h1))
    subst e
    congr 1
    refine rises_unique ha' hb' fun s => ⟨fun hs => ?_, fun hs => ?_⟩
    · rcases List.mem_cons.1 ((h s).1 (by simp [hs])) with e | h1
      · subst e; exact absurd (hx s hs) snLess_irrefl
      · exact h1
    · rcases List.mem_cons.1 ((h s).2 (by simp [hs])) with e | h1
      · subst e; exact absurd (hy s hs) snLess_irrefl
      · exact h1

theorem TellsT.unique {a b : List SnM} {T : TMap} (h : TellsT a T) (k : TellsT b T) : a = b :=
  rises_unique h.rises k.rises fun s => (h.has s).trans (k.has s).symm

theorem tells_none : TellsT [] (fun _ => (0, 0)) := ⟨List.Pairwise.nil, fun s => by simp; intro h1 h2; omega⟩

/-- two of one place are one -/
theorem one_place {l : List SnM} (h : l.Pairwise snLess) {a b : SnM} (ha : a ∈ l) (hb : b ∈ l) (hf : a.func = b.func) (hp : a.pc = b.pc) : a = b := by
  induction l with
  | nil => simp at ha
  | cons x l ih =>
    obtain ⟨hx, hl⟩ := List.pairwise_cons.1 h
    rcases List.mem_cons.1 ha with rfl | ha'
    · rcases List.mem_cons.1 hb with rfl | hb'
      · rfl
      · have := hx b hb'; unfold snLess at this; omega
    · rcases List.mem_cons.1 hb with rfl | hb'
      · have := hx a ha'; unfold snLess at this; omega
      · exact ih hl ha' hb'

/-- what a right profile tells -/
def listT : List SnM → TMap
  | [] => fun _ => (0, 0)
  | s :: l => fun x => if x = (s.func, s.pc) then (s.went, s.past) else listT l x

theorem listT_none {l : List SnM} {k : Int × Int} (h : ∀ s ∈ l, (s.func, s.pc) ≠ k) : listT l k = (0, 0) := by
  induction l with
  | nil => rfl
  | cons s l ih =>
    show (if k = (s.func, s.pc) then _ else _) = _
    rw [if_neg (fun e => h s (by simp) e.symm)]
    exact ih fun x hx => h x (by simp [hx])

theorem listT_mem {l : List SnM} (h : l.Pairwise snLess) {s : SnM} (hs : s ∈ l) : listT l (s.func, s.pc) = (s.went, s.past) := by
  induction l with
  | nil => simp at hs
  | cons x l ih =>
    obtain ⟨hx, hl⟩ := List.pairwise_cons.1 h
    show (if (s.func, s.pc) = (x.func, x.pc) then _ else _) = _
    by_cases e : (s.func, s.pc) = (x.func, x.pc)
    · rw [if_pos e]
      simp only [Prod.mk.injEq] at e
      have := one_place h hs (by simp) e.1 e.2
      rw [this]
    · rw [if_neg e]
      rcases List.mem_cons.1 hs with rfl | hs'
      · exact absurd rfl e
      · exact ih hl hs'

theorem tells_list {l : List SnM} (h : l.Pairwise snLess) (hz : ∀ s ∈ l, (s.went, s.past) ≠ ((0, 0) : Int × Int)) : TellsT l (listT l) := by
  refine ⟨h, fun s => ⟨fun hs => ⟨listT_mem h hs, hz s hs⟩, fun ⟨h1, h2⟩ => ?_⟩⟩
  apply Classical.byContradiction
  intro hn
  by_cases hx : ∃ x ∈ l, x.func = s.func ∧ x.pc = s.pc
  · obtain ⟨x, hx, e1, e2⟩ := hx
    have := listT_mem h hx
    rw [e1, e2, h1] at this
    simp only [Prod.mk.injEq] at this
    have e : x = s := by
      cases x; cases s; simp at e1 e2 this ⊢; exact ⟨e1, e2, this.1.symm, this.2.symm⟩
    rw [e] at hx
    exact hn hx
  · rw [listT_none (fun x hx' e => hx ⟨x, hx', by simp at e; exact e⟩)] at h1
    exact h2 h1.symm

/-- how many of a list are ahead of x -/
def aheadN (x : SnM) : List SnM → Nat
  | [] => 0
  | s :: l => if snLess s x then aheadN x l + 1 else 0

theorem aheadN_le (x : SnM) : ∀ l : List SnM, aheadN x l ≤ l.length
  | [] => Nat.le_refl _
  | s :: l => by unfold aheadN; have := aheadN_le x l; split <;> simp <;> omega

theorem aheadN_at (x : SnM) : ∀ (l : List SnM) (k : Nat) (h : k < l.length), k < aheadN x l → snLess l[k] x
  | s :: l, k, h, hk => by
    unfold aheadN at hk
    split at hk
    · rename_i hs
      cases k with
      | zero => exact hs
      | succ k => exact aheadN_at x l k (by simpa using h) (by omega)
    · omega

theorem aheadN_stop (x : SnM) : ∀ (l : List SnM) (h : aheadN x l < l.length), ¬ snLess l[aheadN x l] x
  | s :: l, h => by
    unfold aheadN at h ⊢
    split
    · rename_i hs
      rw [if_pos hs] at h
      simp only [List.getElem_cons_succ]
      exact aheadN_stop x l (by simpa using h)
    · rename_i hs
      simpa using hs

/-- the counts of both -/
def bothS (x y : SnM) : SnM := ⟨x.func, x.pc, min 1000000 (x.went + y.went), min 1000000 (x.past + y.past)⟩

/-- x is put into a profile -/
def putS (l : List SnM) (x : SnM) : List SnM :=
  if h : aheadN x l < l.length then
    if l[aheadN x l].func = x.func ∧ l[aheadN x l].pc = x.pc then l.take (aheadN x l) ++ bothS x l[aheadN x l] :: l.drop (aheadN x l + 1)
    else l.take (aheadN x l) ++ x :: l.drop (aheadN x l)
  else l ++ [x]

/-- what is at most a million and at least nought -/
def Bnd (T : TMap) : Prop := ∀ k, (0 ≤ (T k).1 ∧ (T k).1 ≤ 1000000) ∧ 0 ≤ (T k).2 ∧ (T k).2 ≤ 1000000

theorem Bnd.add {T : TMap} (h : Bnd T) {k c : Int × Int} (h1 : 0 ≤ c.1) (h2 : 0 ≤ c.2) : Bnd (addT T k c) := by
  intro x
  unfold addT
  have := h k
  split
  · simp only; omega
  · exact h x

theorem TellsT.put {l : List SnM} {T : TMap} (h : TellsT l T) (hB : Bnd T) (x : SnM) (hw : 0 ≤ x.went ∧ x.went ≤ 1000000) (hp : 0 ≤ x.past ∧ x.past ≤ 1000000) (hz : ¬ (x.went = 0 ∧ x.past = 0)) : TellsT (putS l x) (addT T (x.func, x.pc) (x.went, x.past)) := by
  have hr := h.rises
  have hget : ∀ i j (hi : i < l.length) (hj : j < l.length), i < j → snLess l[i] l[j] := fun i j hi hj hij => List.pairwise_iff_getElem.1 hr i j hi hj hij
  have hTx := hB (x.func, x.pc)
  -- membership in the parts
  have htake : ∀ s, s ∈ l.take (aheadN x l) → s ∈ l ∧ snLess s x := fun s hs => by
    obtain ⟨i, hi, rfl⟩ := List.getElem_of_mem hs
    simp only [List.length_take] at hi
    rw [List.getElem_take]
    exact ⟨List.getElem_mem _, aheadN_at x l i (by omega) (by omega)⟩
  unfold putS
  by_cases hlt : aheadN x l < l.length
  · rw [dif_pos hlt]
    have hstop := aheadN_stop x l hlt
    obtain ⟨n, hn⟩ : ∃ n, n = aheadN x l := ⟨_, rfl⟩
    simp only [← hn] at hstop htake hlt ⊢
    have hsplit : l = l.take n ++ l[n] :: l.drop (n + 1) := by rw [← List.drop_eq_getElem_cons hlt, List.take_append_drop]
    have hbeh : ∀ s, s ∈ l.drop (n + 1) → s ∈ l ∧ snLess l[n] s := fun s hs => by
      obtain ⟨i, hi, rfl⟩ := List.getElem_of_mem hs
      simp only [List.length_drop] at hi
      rw [List.getElem_drop]
      exact ⟨List.getElem_mem _, hget n (n + 1 + i) hlt (by omega) (by omega)⟩
    have hmem : ∀ s, s ∈ l ↔ s ∈ l.take n ∨ s = l[n] ∨ s ∈ l.drop (n + 1) := fun s => by
      conv => lhs; rw [hsplit]
      rw [List.mem_append, List.mem_cons]
    by_cases he : l[n].func = x.func ∧ l[n].pc = x.pc
    · rw [if_pos he]
      have hTn := (h.has l[n]).1 (List.getElem_mem _)
      rw [he.1, he.2] at hTn
      have hTn1 := hTn.1
      have hxy : ∀ s : SnM, snLess l[n] s ↔ snLess (bothS x l[n]) s := fun s => by unfold snLess bothS; simp only; rw [he.1, he.2]
      have hyx : ∀ s : SnM, snLess s x ↔ snLess s (bothS x l[n]) := fun s => by unfold snLess bothS; simp only
      refine ⟨?_, fun s => ?_⟩
      · refine List.pairwise_append.2 ⟨hr.sublist (List.take_sublist _ _), List.pairwise_cons.2 ⟨fun s hs => (hxy s).1 (hbeh s hs).2, hr.sublist (List.drop_sublist _ _)⟩, fun a ha b hb => ?_⟩
        rcases List.mem_cons.1 hb with rfl | hb
        · exact (hyx a).1 (htake a ha).2
        · exact snLess_trans ((hyx a).1 (htake a ha).2) ((hxy b).1 (hbeh b hb).2)
      · rw [List.mem_append, List.mem_cons]
        unfold addT
        by_cases hk : (s.func, s.pc) = (x.func, x.pc)
        · rw [if_pos hk]
          simp only [Prod.mk.injEq] at hk
          have h1 : s ∉ l.take n := fun hs => by have := (htake s hs).2; unfold snLess at this; omega
          have h2 : s ∉ l.drop (n + 1) := fun hs => by have := (hbeh s hs).2; unfold snLess at this; omega
          constructor
          · rintro (h3 | rfl | h3)
            · exact absurd h3 h1
            · unfold bothS
              simp only [hTn1]
              simp only [hTn1] at hTx
              refine ⟨by simp only [Prod.mk.injEq]; omega, ?_⟩
              simp only [ne_eq, Prod.mk.injEq]
              omega
            · exact absurd h3 h2
          · rintro ⟨h3, h4⟩
            refine .inr (.inl ?_)
            cases s
            unfold bothS
            simp only [hTn1, Prod.mk.injEq] at h3 hk ⊢
            simp only [SnM.mk.injEq]
            omega
        · rw [if_neg hk, ← h.has s, hmem s]
          constructor
          · rintro (h3 | rfl | h3)
            · exact .inl h3
            · exact absurd (by unfold bothS; rfl) hk
            · exact .inr (.inr h3)
          · rintro (h3 | rfl | h3)
            · exact .inl h3
            · exact absurd (by rw [he.1, he.2]) hk
            · exact .inr (.inr h3)
    · rw [if_neg he]
      have hlx : snLess x l[n] := by unfold snLess at hstop ⊢; omega
      have hno : T (x.func, x.pc) = (0, 0) := by
        apply Classical.byContradiction
        intro hne
        have := (h.has ⟨x.func, x.pc, (T (x.func, x.pc)).1, (T (x.func, x.pc)).2⟩).2 ⟨rfl, hne⟩
        rcases (hmem _).1 this with h3 | h3 | h3
        · have := (htake _ h3).2; unfold snLess at this; simp only at this; omega
        · rw [← h3] at he; exact he ⟨rfl, rfl⟩
        · have := snLess_trans hlx (hbeh _ h3).2; unfold snLess at this; simp only at this; omega
      refine ⟨?_, fun s => ?_⟩
      · refine List.pairwise_append.2 ⟨hr.sublist (List.take_sublist _ _), List.pairwise_cons.2 ⟨fun s hs => ?_, hr.sublist (List.drop_sublist _ _)⟩, fun a ha b hb => ?_⟩
        · rw [List.drop_eq_getElem_cons hlt] at hs
          rcases List.mem_cons.1 hs with rfl | hs
          · exact hlx
          · exact snLess_trans hlx (hbeh s hs).2
        · rcases List.mem_cons.1 hb with rfl | hb
          · exact (htake a ha).2
          · rw [List.drop_eq_getElem_cons hlt] at hb
            rcases List.mem_cons.1 hb with rfl | hb
            · exact snLess_trans (htake a ha).2 hlx
            · exact snLess_trans (htake a ha).2 (snLess_trans hlx (hbeh b hb).2)
      · rw [List.mem_append, List.mem_cons, List.drop_eq_getElem_cons hlt, List.mem_cons]
        unfold addT
        by_cases hk : (s.func, s.pc) = (x.func, x.pc)
        · rw [if_pos hk, hno]
          simp only [Prod.mk.injEq] at hk
          constructor
          · rintro (h3 | rfl | rfl | h3)
            · have := (htake s h3).2; unfold snLess at this; omega
            · refine ⟨by simp only [Prod.mk.injEq]; omega, by simp only [ne_eq, Prod.mk.injEq]; exact hz⟩
            · exact absurd hk he
            · have := snLess_trans hlx (hbeh s h3).2; unfold snLess at this; omega
          · rintro ⟨h3, h4⟩
            refine .inr (.inl ?_)
            cases s; cases x
            simp only [Prod.mk.injEq] at h3 hk hw hp ⊢
            simp only [SnM.mk.injEq]
            omega
        · rw [if_neg hk, ← h.has s, hmem s]
          constructor
          · rintro (h3 | rfl | h3)
            · exact .inl h3
            · exact absurd rfl hk
            · exact .inr h3
          · rintro (h3 | h3)
            · exact .inl h3
            · exact .inr (.inr h3)
  · rw [dif_neg hlt]
    have hall : aheadN x l = l.length := by have := aheadN_le x l; omega
    rw [hall, List.take_length] at htake
    have hno : T (x.func, x.pc) = (0, 0) := by
      apply Classical.byContradiction
      intro hne
      have := (h.has ⟨x.func, x.pc, (T (x.func, x.pc)).1, (T (x.func, x.pc)).2⟩).2 ⟨rfl, hne⟩
      have := (htake _ this).2; unfold snLess at this; simp only at this; omega
    refine ⟨List.pairwise_append.2 ⟨hr, List.pairwise_singleton _ _, fun a ha b hb => ?_⟩, fun s => ?_⟩
    · simp only [List.mem_singleton] at hb
      subst hb
      exact (htake a ha).2
    · rw [List.mem_append, List.mem_singleton]
      unfold addT
      by_cases hk : (s.func, s.pc) = (x.func, x.pc)
      · rw [if_pos hk, hno]
        simp only [Prod.mk.injEq] at hk
        constructor
        · rintro (h3 | rfl)
          · have := (htake s h3).2; unfold snLess at this; omega
          · exact ⟨by simp only [Prod.mk.injEq]; omega, by simp only [ne_eq, Prod.mk.injEq]; exact hz⟩
        · rintro ⟨h3, h4⟩
          refine .inr ?_
          cases s; cases x
          simp only [Prod.mk.injEq] at h3 hk hw hp ⊢
          simp only [SnM.mk.injEq]
          omega
      · rw [if_neg hk, ← h.has s]
        constructor
        · rintro (h3 | rfl)
          · exact h3
          · exact absurd rfl hk
        · exact fun h3 => .inl h3
end Go.Proofs.YtclcnillnfkjoaaGreatDoor

namespace Go.Proofs.YtclcnillnfkjoaaGreatDoor
open Go.RowKit

/-- block b is the map l, block r an iterator over it; left says of a key whether its entry is still to come; cnt: how many are -/
def MapR (w : World) (b r : Nat) (l : PL) (left : Int × Int → Bool) (cnt : Nat) : Prop :=
  ∃ es clock since seen c0, w.heap[b]? = some (.map es clock) ∧ rowsOf es.toList = pairsOf l ∧ MapKept.Stamped es clock ∧ w.heap[r]? = some (.mapIter (some b) since seen c0) ∧
    (∀ x ∈ es.toList, x.born < since) ∧ since ≤ c0 ∧ since ≤ clock ∧ (leftOf es seen).size = cnt ∧ ∀ i (h1 : i < es.toList.length) (h2 : i < l.length), left l[i].1 = !seen.contains es.toList[i].born

theorem MapR.map {w : World} {b r : Nat} {l : PL} {left : Int × Int → Bool} {cnt : Nat} (h : MapR w b r l left cnt) : MapS w b l := by
  obtain ⟨es, clock, since, seen, c0, h1, h2, h3, _⟩ := h
  exact ⟨es, clock, h1, h2, h3⟩

theorem MapR.ne {w : World} {b r : Nat} {l : PL} {left : Int × Int → Bool} {cnt : Nat} (h : MapR w b r l left cnt) : r ≠ b := by
  obtain ⟨es, clock, since, seen, c0, h1, _, _, h4, _⟩ := h
  intro e
  rw [e, h1] at h4
  cases h4

theorem MapR.lt {w : World} {b r : Nat} {l : PL} {left : Int × Int → Bool} {cnt : Nat} (h : MapR w b r l left cnt) : r < w.heap.size := by
  obtain ⟨es, clock, since, seen, c0, _, _, _, h4, _⟩ := h
  exact (Array.getElem?_eq_some_iff.1 h4).1

/-- both blocks lie as they lay -/
theorem MapR.same {w w' : World} {b r : Nat} {l : PL} {left : Int × Int → Bool} {cnt : Nat} (h : MapR w b r l left cnt) (hb : w'.heap[b]? = w.heap[b]?) (hr : w'.heap[r]? = w.heap[r]?) : MapR w' b r l left cnt := by
  obtain ⟨es, clock, since, seen, c0, h1, h2, h3, h4, h5⟩ := h
  exact ⟨es, clock, since, seen, c0, hb.trans h1, h2, h3, hr.trans h4, h5⟩

theorem MapR.below {w w' : World} {b r : Nat} {l : PL} {left : Int × Int → Bool} {cnt : Nat} (h : MapR w b r l left cnt) (hb : Below w.heap.size w w') : MapR w' b r l left cnt :=
  h.same (hb.block b h.map.lt) (hb.block r h.lt)

/-- no key stands twice -/
theorem MapS.keys {w : World} {b : Nat} {l : PL} (h : MapS w b l) : (l.map (·.1)).Nodup := by
  obtain ⟨es, clock, _, hr, _, _, hk⟩ := h
  have e : es.toList.map (·.key) = (l.map (·.1)).map pairV := by
    have := congrArg (List.map Prod.fst) hr
    simpa [rowsOf, pairsOf, List.map_map, Function.comp_def] using this
  rw [e] at hk
  exact (List.pairwise_map.1 hk).imp fun h e => h (congrArg pairV e)

theorem nodup_inj {α : Type} {l : List α} (h : l.Nodup) {i j : Nat} (hi : i < l.length) (hj : j < l.length) (e : l[i] = l[j]) : i = j := by
  have hp := List.pairwise_iff_getElem.1 h
  rcases Nat.lt_trichotomy i j with h1 | h1 | h1
  · exact absurd e (hp i j hi hj h1)
  · exact h1
  · exact absurd e.symm (hp j i hj hi h1)

theorem findP_of_mem {l : PL} (hn : (l.map (·.1)).Nodup) {e : (Int × Int) × (Int × Int)} (he : e ∈ l) : findP e.1 l = some e.2 := by
  induction l with
  | nil => simp at he
  | cons x l ih =>
    simp only [List.map_cons, List.nodup_cons] at hn
    unfold findP
    rcases List.mem_cons.1 he with rfl | he
    · rw [if_pos rfl]
    · rw [if_neg (fun h => hn.1 (by rw [← h]; exact List.mem_map_of_mem he))]
      exact ih hn.2 he

/-- the loop begins -/
theorem MapS.range {w : World} {b : Nat} {l : PL} (h : MapS w b l) :
    ∃ o, (Instr.range 88 (.map (some b))).run Tryz.prog w = .ok (.pointer (some ⟨w.heap.size, 0, none⟩)) (w.alloc o) ∧ MapR (w.alloc o) b w.heap.size l (fun _ => true) l.length := by
  have hlt := h.lt
  obtain ⟨es, clock, hb, hr, hst⟩ := h
  refine ⟨_, run_range_map w _ _ _ b es clock Tryz.underlying88 hb, es, clock, clock, #[], clock, ((MapKept.heap_alloc w _).2 b hlt).trans hb, hr, hst, (MapKept.heap_alloc w _).1, hst.1, Nat.le_refl _, Nat.le_refl _, ?_, fun i h1 h2 => by simp⟩
  have := (rows_at hr).1
  simp [leftOf, ← this]

/-- a step of the loop -/
theorem MapR.next {w : World} {b r : Nat} {l : PL} {left : Int × Int → Bool} {cnt : Nat} (h : MapR w b r l left cnt) (ty : TypeId) :
    (cnt = 0 ∧ (∀ e ∈ l, left e.1 = false) ∧ (Instr.next (.pointer (some ⟨r, 0, none⟩)) false ty).run Tryz.prog w = .ok (.tuple #[.bool false]) w) ∨
    ∃ k v w' cnt', (k, v) ∈ l ∧ left k = true ∧ (Instr.next (.pointer (some ⟨r, 0, none⟩)) false ty).run Tryz.prog w = .ok (.tuple #[.bool true, pairV k, pairV v]) w' ∧ MapR w' b r l (fun x => left x && !decide (x = k)) cnt' ∧ cnt' < cnt ∧
      w.grownBy w' (some r) ∧ w'.heap.size = w.heap.size ∧ (Instr.entry (.pointer (some ⟨r, 0, none⟩))).run Tryz.prog w' = .ok (.tuple #[pairV k, pairV v]) w' ∧ ∀ B, B ≤ r → Below B w w' := by
  have hne := h.ne
  have hkeys := h.map.keys
  obtain ⟨es, clock, since, seen, c0, hb, hro, hst, hr, hold, hsc, hsk, rfl, hl⟩ := h
  obtain ⟨hlen, hrow⟩ := rows_at hro
  rcases run_next_at (P := Tryz.prog) w ty r b since c0 seen es clock hr hb hold hsc with ⟨h0, hrun⟩ | ⟨e, he, w1, hal, hrun⟩
  · refine .inl ⟨h0, fun x hx => ?_, hrun⟩
    obtain ⟨i, hi, rfl⟩ := List.getElem_of_mem hx
    rw [hl i (by omega) hi, all_seen es seen h0 _ (List.getElem_mem (by omega))]
    rfl
  · obtain ⟨hem, hes⟩ := mem_left he
    obtain ⟨i, hi, hie⟩ := List.getElem_of_mem hem
    have hi2 : i < l.length := by omega
    obtain ⟨hk, hv⟩ := hrow i hi hi2
    rw [hie] at hk hv
    rw [hk, hv] at hrun
    have hb1 : w1.heap[b]? = some (.map es clock) := by rcases hal with rfl | rfl <;> exact hb
    have hr1 : w1.heap[r]? = some (.mapIter (some b) since seen c0) := by rcases hal with rfl | rfl <;> exact hr
    have hset := MapKept.heap_set (o' := .mapIter (some b) since (seen.push e.born) clock) hr1
    have hb' : (ChangeMaps.setBlock w1 r (.mapIter (some b) since (seen.push e.born) clock)).heap[b]? = some (.map es clock) := (hset.2 b (fun e1 => hne e1.symm)).trans hb1
    have hen := run_entry_at (P := Tryz.prog) _ r b since seen es clock e hset.1 hb' hem hst.2.1
    rw [hk, hv] at hen
    refine .inr ⟨l[i].1, l[i].2, _, _, List.getElem_mem hi2, by rw [hl i hi hi2, hie, hes]; rfl, hrun, ⟨es, clock, since, seen.push e.born, clock, hb', hro, hst, hset.1, hold, hsk, hsk, rfl, fun j h1 h2 => ?_⟩, left_shrinks es seen e he, ?_, ?_, hen, fun B hB => ?_⟩
    · show (left l[j].1 && !decide (l[j].1 = l[i].1)) = _
      rw [hl j h1 h2, contains_push, Bool.not_or]
      congr 1
      have hiff : l[j].1 = l[i].1 ↔ es.toList[j].born = e.born := by
        constructor
        · intro h
          have : j = i := nodup_inj hkeys (i := j) (j := i) (by simpa using h2) (by simpa using hi2) (by simpa using h)
          subst this; rw [hie]
        · intro h
          have : j = i := nodup_inj hst.2.1 (i := j) (j := i) (by simpa using h1) (by simpa using hi) (by simp only [List.getElem_map]; rw [h, hie])
          subst this; rfl
      by_cases hh : l[j].1 = l[i].1
      · rw [hiff.1 hh]; simp [hh]
      · have : es.toList[j].born ≠ e.born := fun h => hh (hiff.2 h)
        rw [decide_eq_false hh, beq_eq_false_iff_ne.2 this]
    · rcases hal with rfl | rfl <;> exact ⟨rfl, rfl, rfl, by simp [ChangeMaps.setBlock], fun i _ hi => hset.2 i (fun e1 => hi (by rw [e1]))⟩
    · rcases hal with rfl | rfl <;> simp [ChangeMaps.setBlock]
    · rcases hal with rfl | rfl
      · exact below_setBlock (Below.refl _ _) hB _
      · exact below_setBlock (Below.refl _ _).drew hB _

/-- an entry is struck -/
theorem MapR.drop {w : World} {b r : Nat} {l : PL} {left : Int × Int → Bool} {cnt : Nat} (h : MapR w b r l left cnt) (k v : Int × Int) (hk : (k, v) ∈ l) (ty : TypeId) :
    ∃ o cnt', (Builtin.delete_ #[88, 131] ty #[.map (some b), pairV k]).run Tryz.prog w = .ok (.tuple #[]) (ChangeMaps.setBlock w b o) ∧ MapR (ChangeMaps.setBlock w b o) b r (l.filter fun e => decide (e.1 ≠ k)) left cnt' ∧ cnt' ≤ cnt := by
  have hne := h.ne
  have hkeys := h.map.keys
  have hbl := h.map.lt
  obtain ⟨es, clock, since, seen, c0, hb, hro, hst, hr, hold, hsc, hsk, rfl, hl⟩ := h
  obtain ⟨hlen, hrow⟩ := rows_at hro
  have hf := run_findS k w es.toList l hro
  have hs := findI_spec k l 0
  cases hq : findI k l 0 with
  | none => exact absurd rfl (findI_none k l 0 hq _ hk)
  | some y =>
    rw [hq] at hs
    obtain ⟨j, u⟩ := y
    obtain ⟨_, h2, ⟨v0, h3⟩, _⟩ := hs
    simp only [Nat.sub_zero] at h2 h3
    have hj : j < es.size := by rw [← Array.length_toList, hlen]; exact h2
    have h3' : l[j].1 = k := by have := (List.getElem?_eq_some_iff.1 h3).2; rw [this]
    have hsub : (es.eraseIdxIfInBounds j).toList = es.toList.eraseIdx j := by
      unfold Array.eraseIdxIfInBounds
      rw [dif_pos hj]
      simp
    have hfil : l.filter (fun e => decide (e.1 ≠ k)) = l.eraseIdx j := by
      have hsplit : l = l.take j ++ l[j] :: l.drop (j + 1) := by rw [← List.drop_eq_getElem_cons h2, List.take_append_drop]
      have hall : ∀ i (hi : i < l.length), i ≠ j → l[i].1 ≠ k := fun i hi hij e => hij (nodup_inj hkeys (i := i) (j := j) (by simpa using hi) (by simpa using h2) (by simp only [List.getElem_map]; rw [e, h3']))
      have hc : l.filter (fun e => decide (e.1 ≠ k)) = (l.take j ++ l[j] :: l.drop (j + 1)).filter (fun e => decide (e.1 ≠ k)) := congrArg _ hsplit
      have a1 : (l.take j).filter (fun e => decide (e.1 ≠ k)) = l.take j := by
        refine List.filter_eq_self.2 fun x hx => ?_
        obtain ⟨i, hi, rfl⟩ := List.getElem_of_mem hx
        simp only [List.getElem_take]
        have hi' : i < j := by simp only [List.length_take] at hi; omega
        exact decide_eq_true (hall i (by omega) (by omega))
      have a2 : (l.drop (j + 1)).filter (fun e => decide (e.1 ≠ k)) = l.drop (j + 1) := by
        refine List.filter_eq_self.2 fun x hx => ?_
        obtain ⟨i, hi, rfl⟩ := List.getElem_of_mem hx
        simp only [List.getElem_drop]
        have hi' : j + 1 + i < l.length := by simp only [List.length_drop] at hi; omega
        exact decide_eq_true (hall (j + 1 + i) hi' (by omega))
      rw [List.eraseIdx_eq_take_drop_succ, hc, List.filter_append, List.filter_cons, a1, a2]
      exact congrArg _ (if_neg (show ¬ (decide (l[j].1 ≠ k) = true) by rw [h3']; simp))
    have hget : (ChangeMaps.setBlock w b (.map (es.eraseIdxIfInBounds j) clock)).heap[b]? = some (.map (es.eraseIdxIfInBounds j) clock) := by
      show (w.heap.setIfInBounds b _)[b]? = _
      simp [hbl]
    have hgr : (ChangeMaps.setBlock w b (.map (es.eraseIdxIfInBounds j) clock)).heap[r]? = w.heap[r]? := by
      show (w.heap.setIfInBounds b _)[r]? = _
      rw [Array.getElem?_setIfInBounds, if_neg (fun e => hne e.symm)]
    refine ⟨_, _, ?_, ⟨es.eraseIdxIfInBounds j, clock, since, seen, c0, hget, ?_, MapKept.stamped_erase hst j, hgr.trans hr, fun x hx => ?_, hsc, hsk, rfl, fun i h1 h2' => ?_⟩, ?_⟩
    · simp [Builtin.delete_, run_underlying Tryz.underlying88, MapKept.run_getObj_map hb, checkSpot, hf, hq, MapKept.run_setObj_map _ hb, Result.andThen, ChangeMaps.setBlock]
    · rw [hsub, hfil]
      have e3 : rowsOf (es.toList.eraseIdx j) = (rowsOf es.toList).eraseIdx j := by simp [rowsOf, List.eraseIdx_eq_take_drop_succ, List.map_take, List.map_drop]
      have e4 : pairsOf (l.eraseIdx j) = (pairsOf l).eraseIdx j := by simp [pairsOf, List.eraseIdx_eq_take_drop_succ, List.map_take, List.map_drop]
      rw [e3, e4, hro]
    · rw [hsub] at hx
      exact hold x ((List.eraseIdx_sublist _ _).subset hx)
    · have hi1 : i < (es.toList.eraseIdx j).length := by rw [← hsub]; exact h1
      have hi2 : i < (l.eraseIdx j).length := by rw [← hfil]; exact h2'
      have e1 : (l.filter fun e => decide (e.1 ≠ k))[i] = (l.eraseIdx j)[i] := by simp only [hfil]
      have e2 : (es.eraseIdxIfInBounds j).toList[i] = (es.toList.eraseIdx j)[i] := by simp only [hsub]
      rw [e1, e2, List.getElem_eraseIdx, List.getElem_eraseIdx]
      have hll : l.length = (l.eraseIdx j).length + 1 := by rw [List.length_eraseIdx_of_lt h2]; omega
      split
      · exact hl i (by omega) (by omega)
      · exact hl (i + 1) (by omega) (by omega)
    · have e1 : ∀ a : Array MapEntry, (leftOf a seen).size = (a.toList.filter fun e => !seen.contains e.born).length := fun a => by
        unfold leftOf
        rw [← Array.length_toList]
        simp
      rw [e1, e1, hsub]
      exact ((List.eraseIdx_sublist _ _).filter _).length_le
theorem MapR.left_eq {w : World} {b r : Nat} {l : PL} {left : Int × Int → Bool} {cnt : Nat} (h : MapR w b r l left cnt) : w.rangeLeft b r = cnt := by
  obtain ⟨es, clock, since, seen, c0, hb, _, _, hr, _, _, _, hc, _⟩ := h
  simp only [World.rangeLeft, hb, hr]
  exact hc

theorem MapR.walks {w w' : World} {b r : Nat} {l : PL} {left : Int × Int → Bool} {cnt : Nat} (h : MapR w b r l left cnt) (hk : KeepsWalks w w') : MapR w' b r l left cnt := by
  have h0 := h
  obtain ⟨es, clock, since, seen, c0, hb, _, _, hr, _⟩ := h
  exact h0.same ((hk.same b _ hb rfl).trans hb.symm) ((hk.same r _ hr rfl).trans hr.symm)

section
variable {w : World} {ops : Array Oper} {rest : List Oper} {o : Oper} {a : Act} {Q : Exit → Act → World → Prop}

theorem wpList_rangeS (hg : o.guard = none) (m : Operand) (hop : o.op = Op.range 88 m) {b : Nat} {l : PL} (hm : a.eval m = .map (some b)) (h : MapS w b l)
    (hK : ∀ o', MapR (w.alloc o') b w.heap.size l (fun _ => true) l.length → wpList Tryz.prog ops Q rest (a.put o.dst (.pointer (some ⟨w.heap.size, 0, none⟩))) (w.alloc o')) : wpList Tryz.prog ops Q (o :: rest) a w := by
  refine wpList_plain hg fun K' hK' => ?_
  obtain ⟨o', hrun, r1⟩ := h.range
  unfold Oper.wp
  simp [execOp, hop, hm, hrun, Result.andThen]
  exact hK' _ _ (hK o' r1)

theorem wpList_nextS (hg : o.guard = none) (it : Operand) (hop : o.op = Op.next it false) {b r : Nat} {l : PL} {left : Int × Int → Bool} {cnt : Nat} (hit : a.eval it = .pointer (some ⟨r, 0, none⟩)) (h : MapR w b r l left cnt)
    (hDone : (∀ e ∈ l, left e.1 = false) → wpList Tryz.prog ops Q rest (a.put o.dst (.tuple #[.bool false])) w)
    (hMore : ∀ k1 k2 v1 v2 w' cnt', ((k1, k2), (v1, v2)) ∈ l → left (k1, k2) = true → MapR w' b r l (fun x => left x && !decide (x = (k1, k2))) cnt' → cnt' < cnt → w.grownBy w' (some r) → w'.heap.size = w.heap.size →
      (Instr.entry (.pointer (some ⟨r, 0, none⟩))).run Tryz.prog w' = .ok (.tuple #[.agg #[.int .i64 k1, .int .i64 k2], .agg #[.int .i64 v1, .int .i64 v2]]) w' → (∀ B, B ≤ r → Below B w w') →
      wpList Tryz.prog ops Q rest (a.put o.dst (.tuple #[.bool true, .agg #[.int .i64 k1, .int .i64 k2], .agg #[.int .i64 v1, .int .i64 v2]])) w') : wpList Tryz.prog ops Q (o :: rest) a w := by
  refine wpList_plain hg fun K' hK' => ?_
  unfold Oper.wp
  rcases h.next o.type with ⟨_, hl, hrun⟩ | ⟨⟨k1, k2⟩, ⟨v1, v2⟩, w', cnt', hm, hlk, hrun, hrg, hlt, hgr, hsz, hen, hbe⟩
  · simp [execOp, hop, hit, hrun, Result.andThen]
    exact hK' _ _ (hDone hl)
  · simp [execOp, hop, hit, hrun, Result.andThen]
    exact hK' _ _ (hMore k1 k2 v1 v2 w' cnt' hm hlk hrg hlt hgr hsz hen hbe)

theorem wpList_deleteS (hg : o.guard = none) (m x : Operand) (hop : o.op = Op.call { callee := Callee.builtin Builtin.delete, args := #[m, x], argTypes := #[88, 131] }) {b r : Nat} {l : PL} {left : Int × Int → Bool} {cnt : Nat}
    (hm : a.eval m = .map (some b)) (h : MapR w b r l left cnt) (k v : Int × Int) (hk : (k, v) ∈ l) (hx : a.eval x = pairV k)
    (hK : ∀ o' cnt', MapR (ChangeMaps.setBlock w b o') b r (l.filter fun e => decide (e.1 ≠ k)) left cnt' → cnt' ≤ cnt → wpList Tryz.prog ops Q rest (a.put o.dst (.tuple #[])) (ChangeMaps.setBlock w b o')) : wpList Tryz.prog ops Q (o :: rest) a w := by
  refine wpList_plain hg fun K' hK' => ?_
  obtain ⟨o', cnt', hrun, r1, r2⟩ := h.drop k v hk o.type
  unfold Oper.wp
  simp [execOp, hop, resolve, invoke, builtin, hm, hx, hrun, Result.andThen]
  exact hK' _ _ (hK o' cnt' r1 r2)

variable {F : Fence} {n : Nat}

theorem wpListIn_rangeS (hg : o.guard = none) (m : Operand) (hop : o.op = Op.range 88 m) {b : Nat} {l : PL} (hm : a.eval m = .map (some b)) (h : MapS w b l)
    (hK : ∀ o', MapR (w.alloc o') b w.heap.size l (fun _ => true) l.length → wpListIn F n Tryz.prog ops Q rest (a.put o.dst (.pointer (some ⟨w.heap.size, 0, none⟩))) (w.alloc o')) : wpListIn F n Tryz.prog ops Q (o :: rest) a w := by
  refine wpListIn_plain hg fun K' hK' => ?_
  obtain ⟨o', hrun, r1⟩ := h.range
  unfold Oper.wpIn
  refine ⟨by simp [Oper.about, hop], ?_⟩
  rw [Oper.semAt_plain F _ _ (by rw [hop]; intro c hc'; cases hc')]
  simp [execOp, hop, hm, hrun, Result.andThen]
  exact hK' _ _ (hK o' r1)

theorem wpListIn_nextS (hg : o.guard = none) (it : Operand) (hop : o.op = Op.next it false) {b r : Nat} {l : PL} {left : Int × Int → Bool} {cnt : Nat} (hit : a.eval it = .pointer (some ⟨r, 0, none⟩)) (h : MapR w b r l left cnt)
    (hDone : (∀ e ∈ l, left e.1 = false) → wpListIn F n Tryz.prog ops Q rest (a.put o.dst (.tuple #[.bool false])) w)
    (hMore : ∀ k1 k2 v1 v2 w' cnt', ((k1, k2), (v1, v2)) ∈ l → left (k1, k2) = true → MapR w' b r l (fun x => left x && !decide (x = (k1, k2))) cnt' → cnt' < cnt → w.grownBy w' (some r) → w'.heap.size = w.heap.size →
      (Instr.entry (.pointer (some ⟨r, 0, none⟩))).run Tryz.prog w' = .ok (.tuple #[.agg #[.int .i64 k1, .int .i64 k2], .agg #[.int .i64 v1, .int .i64 v2]]) w' → (∀ B, B ≤ r → Below B w w') →
      wpListIn F n Tryz.prog ops Q rest (a.put o.dst (.tuple #[.bool true, .agg #[.int .i64 k1, .int .i64 k2], .agg #[.int .i64 v1, .int .i64 v2]])) w') : wpListIn F n Tryz.prog ops Q (o :: rest) a w := by
  refine wpListIn_plain hg fun K' hK' => ?_
  unfold Oper.wpIn
  refine ⟨by simp [Oper.about, hop], ?_⟩
  rw [Oper.semAt_plain F _ _ (by rw [hop]; intro c hc'; cases hc')]
  rcases h.next o.type with ⟨_, hl, hrun⟩ | ⟨⟨k1, k2⟩, ⟨v1, v2⟩, w', cnt', hm, hlk, hrun, hrg, hlt, hgr, hsz, hen, hbe⟩
  · simp [execOp, hop, hit, hrun, Result.andThen]
    exact hK' _ _ (hDone hl)
  · simp [execOp, hop, hit, hrun, Result.andThen]
    exact hK' _ _ (hMore k1 k2 v1 v2 w' cnt' hm hlk hrg hlt hgr hsz hen hbe)
end
end Go.Proofs.YtclcnillnfkjoaaGreatDoor
