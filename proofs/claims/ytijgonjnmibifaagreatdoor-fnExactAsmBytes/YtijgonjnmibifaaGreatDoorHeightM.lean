/- Heights, as a plain account: what waits, one turn at a place, the run of turns and what it comes to; that turns come to an end. -/
import Derived.Test.YtijgonjnmibifaaGreatDoorTakesW
namespace Go.Proofs.YtijgonjnmibifaaGreatDoor
open Go.RowKit

/-- heights (less than 0: none), and what waits -/
structure HS where
  h : List Int
  wt : List Bool

def putsM (op : Int) : Int := (opRow op).2.2.2

/-- where an instruction goes on -/
def goesTo (at' : Nat) (i : Int × Int) : List Int :=
  (if i.1 = 30 ∨ i.1 = 33 then [] else [(at' : Int) + 1]) ++ (if i.1 = 30 ∨ i.1 = 31 then [i.2] else [])

/-- what it leaves -/
def leaves (p : List FnM) (hh : Int) (i : Int × Int) : Int := wrap64 (wrap64 (hh - takesM p i.1 i.2) + putsM i.1)

/-- to go on to places with that height: what stands then, or a code -/
def goOn (next : Int) : List Int → HS → HS ⊕ Int
  | [], s => .inl s
  | t :: ts, s =>
    if (s.h.length : Int) ≤ t then .inr 6
    else if 0 ≤ s.h.getD t.toNat 0 ∧ s.h.getD t.toNat 0 ≠ next then .inr 5
    else if s.h.getD t.toNat 0 < 0 then goOn next ts ⟨s.h.set t.toNat next, s.wt.set t.toNat true⟩
    else goOn next ts s

/-- one turn at a place -/
def turn (p : List FnM) (c : List (Int × Int)) (at' : Nat) (s : HS) : HS ⊕ Int :=
  if s.h.getD at' 0 < takesM p (c.getD at' (0, 0)).1 (c.getD at' (0, 0)).2 ∨ 8 < leaves p (s.h.getD at' 0) (c.getD at' (0, 0)) then .inr 5
  else goOn (leaves p (s.h.getD at' 0) (c.getD at' (0, 0))) (goesTo at' (c.getD at' (0, 0))) ⟨s.h, s.wt.set at' false⟩

/-- the least place that waits -/
def IsLeast (wt : List Bool) (at' : Nat) : Prop := at' < wt.length ∧ wt.getD at' false = true ∧ ∀ j, j < at' → wt.getD j false = false

/-- what the turns come to: heights, or a fault with its place and code -/
inductive HRun (p : List FnM) (c : List (Int × Int)) : HS → (List Int ⊕ (Nat × Int)) → Prop
  | done (s : HS) : (∀ j, s.wt.getD j false = false) → HRun p c s (.inl s.h)
  | fault (s : HS) (at' : Nat) (code : Int) : IsLeast s.wt at' → turn p c at' s = .inr code → HRun p c s (.inr (at', code))
  | more (s s' : HS) (at' : Nat) (r : List Int ⊕ (Nat × Int)) : IsLeast s.wt at' → turn p c at' s = .inl s' → HRun p c s' r → HRun p c s r

theorem IsLeast.unique {wt : List Bool} {a b : Nat} (h : IsLeast wt a) (k : IsLeast wt b) : a = b := by
  rcases Nat.lt_trichotomy a b with hl | he | hl
  · have := k.2.2 a hl; rw [h.2.1] at this; cases this
  · exact he
  · have := h.2.2 b hl; rw [k.2.1] at this; cases this

theorem HRun.unique {p : List FnM} {c : List (Int × Int)} {s : HS} {r r' : List Int ⊕ (Nat × Int)} (h : HRun p c s r) (k : HRun p c s r') : r = r' := by
  induction h generalizing r' with
  | done s hw =>
    cases k with
    | done _ _ => rfl
    | fault _ a _ hl _ => have := hw a; rw [hl.2.1] at this; cases this
    | more _ _ a _ hl _ _ => have := hw a; rw [hl.2.1] at this; cases this
  | fault s a code hl ht =>
    cases k with
    | done _ hw => have := hw a; rw [hl.2.1] at this; cases this
    | fault _ b _ hl' ht' =>
      obtain rfl := hl.unique hl'
      rw [ht] at ht'
      cases ht'
      rfl
    | more _ _ b _ hl' ht' _ =>
      obtain rfl := hl.unique hl'
      rw [ht] at ht'
      cases ht'
  | more s s' a r hl ht _ ih =>
    cases k with
    | done _ hw => have := hw a; rw [hl.2.1] at this; cases this
    | fault _ b _ hl' ht' =>
      obtain rfl := hl.unique hl'
      rw [ht] at ht'
      cases ht'
    | more _ _ b _ hl' ht' hr' =>
      obtain rfl := hl.unique hl'
      rw [ht] at ht'
      cases ht'
      exact ih hr'

/-! turns come to an end: a weight that each turn makes less -/

def wgt (x : Int) (b : Bool) : Nat := (if x < 0 then 3 else 0) + (if b then (if x < 0 then 1 else 3) else 0)
def wsum : List Int → List Bool → Nat
  | x :: h, b :: wt => wgt x b + wsum h wt
  | _, _ => 0
def HS.weight (s : HS) : Nat := wsum s.h s.wt

theorem wsum_set (h : List Int) (wt : List Bool) (j : Nat) (x : Int) (b : Bool) (hj : j < h.length) (hj' : j < wt.length) :
    wsum (h.set j x) (wt.set j b) + wgt (h.getD j 0) (wt.getD j false) = wsum h wt + wgt x b := by
  induction h generalizing wt j with
  | nil => simp at hj
  | cons y h ih =>
    cases wt with
    | nil => simp at hj'
    | cons d wt =>
      cases j with
      | zero => simp only [List.set_cons_zero, wsum, List.getD_cons_zero]; omega
      | succ j =>
        have := ih wt j (by simpa using hj) (by simpa using hj')
        simp only [List.set_cons_succ, wsum, List.getD_cons_succ]
        omega

theorem set_getD_self {α : Type} (l : List α) (j : Nat) (d : α) (hj : j < l.length) : l.set j (l.getD j d) = l := by
  simp [List.getD, hj]

/-- a height that a place which waits can have: 0 to 8, or one that has gone below all numbers and come back on the other side -/
def HV (x : Int) : Prop := (0 ≤ x ∧ x ≤ 8) ∨ (-9223372036854775808 ≤ x ∧ x ≤ -9223372036854775798)

structure HOk (n : Nat) (s : HS) : Prop where
  lh : s.h.length = n
  lw : s.wt.length = n
  ok : ∀ j, j < n → s.wt.getD j false = true → HV (s.h.getD j 0)

theorem getD_set {α : Type} (l : List α) (j k : Nat) (x d : α) (hj : j < l.length) : (l.set j x).getD k d = if j = k then x else l.getD k d := by
  simp only [List.getD, List.getElem?_set]
  by_cases h : j = k
  · subst h; simp [hj]
  · simp [h]

theorem goOn_ok {n : Nat} {next : Int} (hv : HV next) : ∀ (ts : List Int) (s s' : HS), (∀ t ∈ ts, 0 ≤ t) → HOk n s → goOn next ts s = .inl s' → HOk n s' ∧ s'.weight ≤ s.weight + (if next < 0 then ts.length else 0)
  | [], s, s', _, ho, h => by
    simp only [goOn, Sum.inl.injEq] at h
    subst h
    exact ⟨ho, by omega⟩
  | t :: ts, s, s', hp, ho, h => by
    have ht0 := hp t (by simp)
    rw [goOn] at h
    split at h
    · cases h
    · rename_i hlt
      have hj : t.toNat < s.h.length := by omega
      have hj' : t.toNat < s.wt.length := by rw [ho.lw, ← ho.lh]; exact hj
      split at h
      · cases h
      · split at h
        · rename_i hneg
          have hs : HOk n ⟨s.h.set t.toNat next, s.wt.set t.toNat true⟩ := by
            refine ⟨by simpa using ho.lh, by simpa using ho.lw, fun j hjn hw => ?_⟩
            simp only [getD_set _ _ _ _ _ hj, getD_set _ _ _ _ _ hj'] at hw ⊢
            split
            · exact hv
            · rename_i hne
              rw [if_neg hne] at hw
              exact ho.ok j hjn hw
          obtain ⟨h1, h2⟩ := goOn_ok hv ts _ s' (fun t' ht' => hp t' (by simp [ht'])) hs h
          refine ⟨h1, Nat.le_trans h2 ?_⟩
          have h3 := wsum_set s.h s.wt t.toNat next true hj hj'
          have h4 : 3 ≤ wgt (s.h.getD t.toNat 0) (s.wt.getD t.toNat false) := by unfold wgt; rw [if_pos hneg]; omega
          have h5 : wgt next true = if next < 0 then 4 else 3 := by unfold wgt; split <;> simp
          have h6 : (HS.mk (s.h.set t.toNat next) (s.wt.set t.toNat true)).weight = wsum (s.h.set t.toNat next) (s.wt.set t.toNat true) := rfl
          have h7 : s.weight = wsum s.h s.wt := rfl
          rw [h6, h7]
          simp only [List.length_cons]
          split at h5 <;> rename_i hn
          · rw [if_pos hn, if_pos hn]; omega
          · rw [if_neg hn, if_neg hn]; omega
        · obtain ⟨h1, h2⟩ := goOn_ok hv ts s s' (fun t' ht' => hp t' (by simp [ht'])) ho h
          refine ⟨h1, Nat.le_trans h2 ?_⟩
          simp only [List.length_cons]
          split <;> omega

theorem putsM_range (op : Int) : 0 ≤ putsM op ∧ putsM op ≤ 2 := by
  unfold putsM
  refine opRow_of op (P := fun r => 0 ≤ r.2.2.2 ∧ r.2.2.2 ≤ 2) (fun _ => by decide) (fun k hk _ => ?_)
  have : ∀ k : Fin 39, 0 ≤ (opN k.1).2.2.2 ∧ (opN k.1).2.2.2 ≤ 2 := by decide
  exact this ⟨k, hk⟩

theorem takes_row (op : Int) : 0 ≤ (opRow op).2.2.1 ∧ (opRow op).2.2.1 ≤ 3 := by
  refine opRow_of op (P := fun r => 0 ≤ r.2.2.1 ∧ r.2.2.1 ≤ 3) (fun _ => by decide) (fun k hk _ => ?_)
  have : ∀ k : Fin 39, 0 ≤ (opN k.1).2.2.1 ∧ (opN k.1).2.2.1 ≤ 3 := by decide
  exact this ⟨k, hk⟩

theorem fnAt_mem {p : List FnM} {a : Int} (h : 0 ≤ a ∧ a < p.length) : fnAt p a ∈ p := by
  have hk : a.toNat < p.length := by omega
  have : fnAt p a = p[a.toNat] := by simp [fnAt, List.getD, hk]
  rw [this]
  exact List.getElem_mem hk

theorem takesM_i64 {p : List FnM} (hp : ∀ f ∈ p, f.ok) (op a : Int) : I64 (takesM p op a) := by
  unfold takesM
  split
  · split
    · rename_i h
      exact (hp _ (fnAt_mem h)).1
    · unfold I64; omega
  · have := takes_row op
    unfold I64; omega

theorem leaves_ok {p : List FnM} (hp : ∀ f ∈ p, f.ok) (hh : Int) (i : Int × Int) (hv : HV hh) (h1 : takesM p i.1 i.2 ≤ hh) (h2 : leaves p hh i ≤ 8) : HV (leaves p hh i) ∧ (hh < 0 → 0 ≤ leaves p hh i) := by
  have ht := takesM_i64 hp i.1 i.2
  have hq := putsM_range i.1
  unfold leaves at h2 ⊢
  unfold I64 at ht
  unfold HV at hv ⊢
  unfold wrap64 at h2 ⊢
  omega

theorem goesTo_len (at' : Nat) (i : Int × Int) : (goesTo at' i).length ≤ 2 := by
  unfold goesTo
  split <;> split <;> simp

theorem turn_less {p : List FnM} (hp : ∀ f ∈ p, f.ok) {c : List (Int × Int)} {n at' : Nat} {s s' : HS} (ho : HOk n s) (hl : IsLeast s.wt at') (hto : ∀ t ∈ goesTo at' (c.getD at' (0, 0)), 0 ≤ t)
    (h : turn p c at' s = .inl s') : HOk n s' ∧ s'.weight < s.weight := by
  have hj' : at' < s.wt.length := hl.1
  have hj : at' < s.h.length := by rw [ho.lh, ← ho.lw]; exact hj'
  unfold turn at h
  split at h
  · cases h
  · rename_i hc
    obtain ⟨hc1, hc2⟩ := not_or.1 hc
    have hv := ho.ok at' (by rw [← ho.lw]; exact hj') hl.2.1
    obtain ⟨hv', hneg⟩ := leaves_ok hp _ (c.getD at' (0, 0)) hv (by omega) (by omega)
    have hs : HOk n ⟨s.h, s.wt.set at' false⟩ := by
      refine ⟨ho.lh, by simpa using ho.lw, fun j hjn hw => ?_⟩
      simp only [getD_set _ _ _ _ _ hj'] at hw
      split at hw
      · cases hw
      · exact ho.ok j hjn hw
    obtain ⟨h1, h2⟩ := goOn_ok hv' _ _ _ hto hs h
    refine ⟨h1, Nat.lt_of_le_of_lt h2 ?_⟩
    have h3 := wsum_set s.h s.wt at' (s.h.getD at' 0) false hj hj'
    rw [set_getD_self _ _ _ hj, hl.2.1] at h3
    have h4 := goesTo_len at' (c.getD at' (0, 0))
    have h6 : (HS.mk s.h (s.wt.set at' false)).weight = wsum s.h (s.wt.set at' false) := rfl
    have h7 : s.weight = wsum s.h s.wt := rfl
    rw [h6, h7]
    by_cases hn : s.h.getD at' 0 < 0
    · have := hneg hn
      rw [if_neg (by omega)]
      simp only [wgt, if_pos hn, if_true] at h3
      simp at h3
      omega
    · simp only [wgt, if_neg hn, if_true] at h3
      simp at h3
      split <;> omega
end Go.Proofs.YtijgonjnmibifaaGreatDoor
