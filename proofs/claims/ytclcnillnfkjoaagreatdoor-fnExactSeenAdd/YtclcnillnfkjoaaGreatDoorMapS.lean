/- A map whose keys and whose values are structs of two numbers: what a look-up, a write and a new one do. -/
import Derived.Test.YtclcnillnfkjoaaGreatDoorPrg
import Derived.Test.YtclcnillnfkjoaaGreatDoorMapLit
import Derived.Laws.StructEq
namespace Go.Proofs.YtclcnillnfkjoaaGreatDoor
open Go.RowKit

abbrev PL := List ((Int × Int) × (Int × Int))
def pairV (x : Int × Int) : Value := .agg #[.int .i64 x.1, .int .i64 x.2]

def findP (k : Int × Int) : PL → Option (Int × Int)
  | [] => none
  | e :: l => if k = e.1 then some e.2 else findP k l

def putP (k v : Int × Int) : PL → PL
  | [] => [(k, v)]
  | e :: l => if k = e.1 then (k, v) :: l else e :: putP k v l

def findI (k : Int × Int) : PL → Nat → Option (Nat × Value)
  | [], _ => none
  | e :: l, i => if k = e.1 then some (i, pairV e.2) else findI k l (i + 1)

def rowsOf (es : List MapEntry) : List (Value × Value) := es.map fun e => (e.key, e.val)
def pairsOf (l : PL) : List (Value × Value) := l.map fun x => (pairV x.1, pairV x.2)

/-- block b is the map with these entries, in the order in which they came -/
def MapS (w : World) (b : Nat) (l : PL) : Prop := ∃ es clock, w.heap[b]? = some (.map es clock) ∧ rowsOf es.toList = pairsOf l ∧ MapKept.Stamped es clock

theorem MapS.lt {w : World} {b : Nat} {l : PL} (h : MapS w b l) : b < w.heap.size := by
  obtain ⟨es, c, h, _⟩ := h
  exact (Array.getElem?_eq_some_iff.1 h).1

theorem MapS.below {w w' : World} {b : Nat} {l : PL} (h : MapS w b l) (hb : Below w.heap.size w w') : MapS w' b l := by
  have hl := h.lt
  obtain ⟨es, c, h, h2⟩ := h
  exact ⟨es, c, by rw [hb.block b hl]; exact h, h2⟩

theorem findI_findP (k : Int × Int) (l : PL) (i : Nat) : (findI k l i).map (·.2) = (findP k l).map pairV := by
  induction l generalizing i with
  | nil => rfl
  | cons e l ih =>
    unfold findI findP
    by_cases h : k = e.1
    · rw [if_pos h, if_pos h]; rfl
    · rw [if_neg h, if_neg h]; exact ih _

theorem eqSpot (a b : Int × Int) (w : World) : (Op.equal 131 (pairV a) (pairV b)).run Tryz.prog w = .ok (decide (a = b)) w := by
  have u3 := Tryz.underlying2
  have a3 := Tryz.isAgg2
  have z3 := Tryz.sizeOf2
  have hS : Tryz.prog.underlying 131 = some (.struct (Tryz.prog.fieldsOf 131)) := by kernel_rfl
  have hp : Tryz.prog.stoodInHeld 131 = false := by kernel_rfl
  obtain ⟨a1, a2⟩ := a
  obtain ⟨b1, b2⟩ := b
  unfold pairV
  rw [show Op.equal 131 = Op.equalIn (9999 + 1) 131 from rfl, run_equalIn_agg w 9999 131 _ _ hS hp]
  simp only [Program.fieldsOf, Tryz.underlying131]
  go_simp
  by_cases h1 : a1 = b1 <;> by_cases h2 : a2 = b2 <;> simp [h1, h2]

theorem checkSpot (e : Bool) (a : Int × Int) (w : World) : (Instr.checkKey e 10000 131 (pairV a)).run Tryz.prog w = .ok () w := by
  unfold pairV
  kernel_rfl

theorem run_asking (k : Int × Int) (w : World) : ∀ (es : List MapEntry) (l : PL) (i : Nat), rowsOf es = pairsOf l → (Instr.findAsking 131 (pairV k) es i).run Tryz.prog w = .ok (findI k l i) w
  | [], l, i, h => by
    cases l with
    | nil => rfl
    | cons x l => simp [rowsOf, pairsOf] at h
  | e :: es, l, i, h => by
    cases l with
    | nil => simp [rowsOf, pairsOf] at h
    | cons x l =>
      simp only [rowsOf, pairsOf, List.map_cons, List.cons.injEq, Prod.mk.injEq] at h
      obtain ⟨⟨hk, hv⟩, hr⟩ := h
      unfold Instr.findAsking findI
      simp only [Sem.run_bind, hk, eqSpot, Result.andThen_ok]
      by_cases hkx : k = x.1
      · rw [if_pos hkx]; simp [hkx, hv]
      · rw [if_neg hkx]; simp only [decide_eq_false hkx, Bool.false_eq_true, if_false]; exact run_asking k w es l (i + 1) hr

theorem run_findS (k : Int × Int) (w : World) (es : List MapEntry) (l : PL) (h : rowsOf es = pairsOf l) : (Instr.findKey 131 (pairV k) es).run Tryz.prog w = .ok (findI k l 0) w := by
  unfold Instr.findKey
  simp only [Sem.run_bind, run_underlying Tryz.underlying131, Result.andThen_ok]
  cases es with
  | nil =>
    cases l with
    | nil => rfl
    | cons x l => simp [rowsOf, pairsOf] at h
  | cons e es =>
    have hn : ∀ fs, Instr.findNow (.struct fs) (pairV k) (e :: es) 0 = none := fun fs => rfl
    rw [hn]
    exact run_asking k w (e :: es) l 0 h

/-- v, ok := m[k] -/
theorem MapS.look {w : World} {b : Nat} {l : PL} (h : MapS w b l) (k : Int × Int) :
    (Instr.lookup 88 (.map (some b)) (pairV k) true).run Tryz.prog w = .ok (.tuple #[pairV ((findP k l).getD (0, 0)), .bool (findP k l).isSome]) w ∧
    (Instr.lookup 88 (.map (some b)) (pairV k) false).run Tryz.prog w = .ok (pairV ((findP k l).getD (0, 0))) w := by
  obtain ⟨es, clock, hb, hr, _⟩ := h
  have hf := run_findS k w es.toList l hr
  have hp := findI_findP k l 0
  have hz : (zeroValue 128).run Tryz.prog w = .ok (pairV (0, 0)) w := by unfold pairV; kernel_rfl
  constructor
  all_goals
    unfold Instr.lookup
    simp only [Sem.run_bind, run_underlying Tryz.underlying88, Result.andThen_ok, Sem.run_pure, MapKept.run_getObj_map hb, checkSpot, hf]
    cases hq : findI k l 0 with
    | none =>
      rw [hq] at hp
      cases hq2 : findP k l with
      | none => simp [hz, Result.andThen]
      | some y => rw [hq2] at hp; simp at hp
    | some y =>
      rw [hq] at hp
      cases hq2 : findP k l with
      | none => rw [hq2] at hp; simp at hp
      | some z => rw [hq2] at hp; simp at hp; simp [hp]

theorem findI_spec (k : Int × Int) : ∀ (l : PL) (i : Nat), match findI k l i with
    | none => putP k = putP k ∧ ∀ v, putP k v l = l ++ [(k, v)]
    | some (j, _) => i ≤ j ∧ j - i < l.length ∧ (∃ v, l[j - i]? = some (k, v)) ∧ ∀ v, putP k v l = l.set (j - i) (k, v)
  | [], i => ⟨rfl, fun _ => rfl⟩
  | e :: l, i => by
    unfold findI
    by_cases h : k = e.1
    · rw [if_pos h]
      refine ⟨Nat.le_refl _, by simp, ⟨e.2, by simp [h]⟩, fun v => ?_⟩
      unfold putP; rw [if_pos h]; simp
    · rw [if_neg h]
      have := findI_spec k l (i + 1)
      cases hq : findI k l (i + 1) with
      | none =>
        rw [hq] at this
        refine ⟨rfl, fun v => ?_⟩
        unfold putP; rw [if_neg h, this.2 v]; rfl
      | some y =>
        rw [hq] at this
        obtain ⟨h1, h2, ⟨v0, h3⟩, h4⟩ := this
        have e1 : y.1 - i = (y.1 - (i + 1)) + 1 := by omega
        refine ⟨by omega, by rw [e1]; simp; omega, ⟨v0, by rw [e1]; simpa using h3⟩, fun v => ?_⟩
        unfold putP; rw [if_neg h, h4 v, e1]; rfl

theorem sameBits_pair (a : Int × Int) : Instr.sameBits 10000 (pairV a) (pairV a) = true := by
  unfold pairV
  rw [show (10000 : Nat) = 9998 + 1 + 1 from rfl]
  simp [Instr.sameBits]

theorem pairV_inj {a b : Int × Int} (h : pairV a = pairV b) : a = b := by
  unfold pairV at h
  simp at h
  exact Prod.ext h.1 h.2

/-- the row of an entry -/
theorem rows_at {es : List MapEntry} {l : PL} (h : rowsOf es = pairsOf l) : es.length = l.length ∧ ∀ i (h1 : i < es.length) (h2 : i < l.length), es[i].key = pairV l[i].1 ∧ es[i].val = pairV l[i].2 := by
  have hl : es.length = l.length := by have := congrArg List.length h; simpa [rowsOf, pairsOf] using this
  refine ⟨hl, fun i h1 h2 => ?_⟩
  have := congrArg (fun x => x[i]?) h
  simp only [rowsOf, pairsOf, List.getElem?_map, List.getElem?_eq_getElem h1, List.getElem?_eq_getElem h2, Option.map_some, Option.some.injEq, Prod.mk.injEq] at this
  exact this

theorem findI_none (k : Int × Int) : ∀ (l : PL) (i : Nat), findI k l i = none → ∀ e ∈ l, e.1 ≠ k
  | [], _, _, e, he => by simp at he
  | x :: l, i, h, e, he => by
    unfold findI at h
    by_cases hk : k = x.1
    · rw [if_pos hk] at h; cases h
    · rw [if_neg hk] at h
      rcases List.mem_cons.1 he with rfl | he
      · exact fun e => hk e.symm
      · exact findI_none k l (i + 1) h e he

theorem no_key (k : Int × Int) (es : List MapEntry) (l : PL) (h : rowsOf es = pairsOf l) (hq : findI k l 0 = none) : ∀ x ∈ es, x.key ≠ pairV k := by
  intro x hx
  obtain ⟨hl, hr⟩ := rows_at h
  obtain ⟨i, hi, rfl⟩ := List.getElem_of_mem hx
  rw [(hr i hi (by omega)).1]
  exact fun e => findI_none k l 0 hq _ (List.getElem_mem (by omega)) (pairV_inj e)

/-- m[k] = v -/
theorem MapS.update {w : World} {b : Nat} {l : PL} (h : MapS w b l) (k v : Int × Int) :
    ∃ es clock, (Instr.mapUpdate 88 (.map (some b)) (pairV k) (pairV v)).run Tryz.prog w = .ok () (ChangeMaps.setBlock w b (.map es clock)) ∧ MapS (ChangeMaps.setBlock w b (.map es clock)) b (putP k v l) := by
  have hlt := h.lt
  obtain ⟨es, clock, hb, hr, hst⟩ := h
  have hf := run_findS k w es.toList l hr
  have hs := findI_spec k l 0
  have hget : ∀ o : Obj, (ChangeMaps.setBlock w b o).heap[b]? = some o := fun o => by
    show (w.heap.setIfInBounds b o)[b]? = _
    simp [hlt]
  cases hq : findI k l 0 with
  | none =>
    rw [hq] at hs
    refine ⟨_, _, ?_, ⟨es.push { key := pairV k, val := pairV v, born := clock }, clock + 1, hget _, ?_, MapKept.stamped_push hst (no_key k es.toList l hr hq)⟩⟩
    · unfold Instr.mapUpdate
      simp only [Sem.run_bind, run_underlying Tryz.underlying88, Result.andThen_ok, MapKept.run_getObj_map hb, checkSpot, hf, hq]
      exact MapKept.run_setObj_map _ hb
    · rw [hs.2 v]
      simp only [rowsOf, pairsOf, Array.toList_push, List.map_append, List.map_cons, List.map_nil] at hr ⊢
      rw [hr]
  | some y =>
    rw [hq] at hs
    obtain ⟨j, u⟩ := y
    obtain ⟨_, h2, ⟨v0, h3⟩, h4⟩ := hs
    simp only [Nat.sub_zero] at h2 h3 h4
    have hlen : es.toList.length = l.length := by
      have := congrArg List.length hr
      simpa [rowsOf, pairsOf] using this
    have hj : j < es.size := by rw [← Array.length_toList, hlen]; exact h2
    have hkey : es[j].key = pairV k := by
      have := congrArg (fun x => x[j]?) hr
      simp only [rowsOf, pairsOf, List.getElem?_map, h3, Option.map_some, Array.getElem?_toList, Array.getElem?_eq_getElem hj, Option.some.injEq, Prod.mk.injEq] at this
      exact this.1
    refine ⟨_, _, ?_, ⟨es.modify j fun e => { e with key := pairV k, val := pairV v }, clock, hget _, ?_, MapKept.stamped_modify hst j _ (fun _ _ => rfl) (fun e _ hej => by rw [Array.getElem?_eq_getElem hj] at hej; cases hej; exact hkey.symm)⟩⟩
    · unfold Instr.mapUpdate
      simp only [Sem.run_bind, run_underlying Tryz.underlying88, Result.andThen_ok, MapKept.run_getObj_map hb, checkSpot, hf, hq]
      unfold Instr.keyThatStays
      simp only [Array.getElem?_eq_getElem hj, Option.map_some, Option.getD_some, hkey, sameBits_pair, if_true, Sem.run_pure, Result.andThen_ok]
      exact MapKept.run_setObj_map _ hb
    · rw [h4 v]
      apply List.ext_getElem?
      intro i
      have hri := congrArg (fun x => x[i]?) hr
      simp only [rowsOf, pairsOf, List.getElem?_map, Array.getElem?_toList, Array.getElem?_modify, List.getElem?_set] at hri ⊢
      by_cases hi : j = i
      · subst hi
        simp [hj, h2]
      · simp only [if_neg hi]; exact hri
end Go.Proofs.YtclcnillnfkjoaaGreatDoor
