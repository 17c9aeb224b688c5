/- Heights as a map tells them: a place has one, or none; what waits is a rising list. Against the account in which a number below 0 means none. -/
import Derived.Test.YtijgonjnmibifaaGreatDoorHeightR
namespace Go.Proofs.YtijgonjnmibifaaGreatDoor
open Go.RowKit

/-- the height of each place, if it has one; what waits, rising -/
structure IS where
  m : List (Option Int)
  L : List Nat

def putIn (t : Nat) (L : List Nat) : List Nat := L.take (L.countP (· < t)) ++ t :: L.drop (L.countP (· < t))

/-- to go on to one place -/
def stepI (next t : Int) (s : IS) : IS ⊕ Int :=
  if t = s.m.length then .inr 6
  else match s.m.getD t.toNat none with
    | some h => if h = next then .inl s else .inr 5
    | none => .inl ⟨s.m.set t.toNat (some next), putIn t.toNat s.L⟩

def goOnI (next : Int) : List Int → IS → IS ⊕ Int
  | [], s => .inl s
  | t :: ts, s => match stepI next t s with
    | .inl s' => goOnI next ts s'
    | .inr c => .inr c

/-- what is wrong at a place ahead of going on -/
def badAt (p : List FnM) (hh : Int) (i : Int × Int) : Prop := hh < takesM p i.1 i.2 ∨ 8 < leaves p hh i
instance (p : List FnM) (hh : Int) (i : Int × Int) : Decidable (badAt p hh i) := by unfold badAt; infer_instance

def hOf (s : IS) (k : Nat) : Int := (s.m.getD k none).getD 0

structure IOk (n : Nat) (s : IS) : Prop where
  len : s.m.length = n
  rise : s.L.Pairwise (· < ·)
  has : ∀ j ∈ s.L, j < n ∧ (s.m.getD j none).isSome = true

def IS.weight (s : IS) : Nat := 2 * s.m.countP (·.isNone) + s.L.length

theorem countP_rise {L : List Nat} (h : L.Pairwise (· < ·)) (t : Nat) : ∀ k (hk : k < L.length), (L[k] < t ↔ k < L.countP (· < t)) := by
  induction L with
  | nil => intro k hk; simp at hk
  | cons x L ih =>
    obtain ⟨h1, h2⟩ := List.pairwise_cons.1 h
    intro k hk
    rw [List.countP_cons]
    by_cases hx : x < t
    · simp only [hx, decide_true, if_true]
      cases k with
      | zero => simp [hx]
      | succ k =>
        have := ih h2 k (by simpa using hk)
        simp only [List.getElem_cons_succ]
        omega
    · have h0 : L.countP (· < t) = 0 := by
        rw [List.countP_eq_zero]
        intro y hy
        have := h1 y hy
        simp; omega
      simp only [hx, decide_false, h0]
      cases k with
      | zero => simp [hx]
      | succ k =>
        have hk' : k < L.length := by simpa using hk
        have := h1 L[k] (List.getElem_mem hk')
        simp only [List.getElem_cons_succ]
        simp; omega

theorem rise_length : ∀ (L : List Nat) (n : Nat), L.Pairwise (· < ·) → (∀ j ∈ L, j < n) → L.length ≤ n := by
  intro L n h hb
  have hsub : L.Nodup := h.imp (fun h => Nat.ne_of_lt h)
  have hmem : L ⊆ List.range n := fun j hj => List.mem_range.2 (hb j hj)
  have := hsub.length_le_of_subset hmem
  simpa using this

theorem mem_putIn {t j : Nat} {L : List Nat} : j ∈ putIn t L ↔ j = t ∨ j ∈ L := by
  unfold putIn
  rw [List.mem_append, List.mem_cons]
  conv => rhs; rw [← List.take_append_drop (L.countP (· < t)) L, List.mem_append]
  constructor
  · rintro (h | h | h)
    · exact .inr (.inl h)
    · exact .inl h
    · exact .inr (.inr h)
  · rintro (h | h | h)
    · exact .inr (.inl h)
    · exact .inl h
    · exact .inr (.inr h)

theorem putIn_rise {t : Nat} {L : List Nat} (h : L.Pairwise (· < ·)) (ht : t ∉ L) : (putIn t L).Pairwise (· < ·) := by
  unfold putIn
  have hs := h
  rw [← List.take_append_drop (L.countP (· < t)) L, List.pairwise_append] at hs
  obtain ⟨h1, h2, h3⟩ := hs
  have hlt : ∀ x ∈ L.take (L.countP (· < t)), x < t := by
    intro x hx
    obtain ⟨k, hk, rfl⟩ := List.getElem_of_mem hx
    have hk' : k < L.countP (· < t) ∧ k < L.length := by rw [List.length_take] at hk; omega
    rw [List.getElem_take]
    exact (countP_rise h t k hk'.2).2 hk'.1
  have hgt : ∀ x ∈ L.drop (L.countP (· < t)), t < x := by
    intro x hx
    obtain ⟨k, hk, rfl⟩ := List.getElem_of_mem hx
    rw [List.getElem_drop]
    have hk' : L.countP (· < t) + k < L.length := by simp at hk; omega
    have h4 : ¬ L[L.countP (· < t) + k] < t := fun hc => absurd ((countP_rise h t _ hk').1 hc) (by omega)
    have h5 : L[L.countP (· < t) + k] ≠ t := fun e => ht (e ▸ List.getElem_mem hk')
    omega
  rw [List.pairwise_append]
  refine ⟨h1, List.pairwise_cons.2 ⟨hgt, h2⟩, fun x hx y hy => ?_⟩
  rcases List.mem_cons.1 hy with rfl | hy
  · exact hlt x hx
  · exact h3 x hx y hy

theorem putIn_length (t : Nat) (L : List Nat) : (putIn t L).length = L.length + 1 := by
  have h : L.countP (· < t) ≤ L.length := List.countP_le_length
  simp [putIn]
  omega

theorem countP_set_none {m : List (Option Int)} {k : Nat} {x : Int} (hk : k < m.length) (hn : m.getD k none = none) : (m.set k (some x)).countP (·.isNone) + 1 = m.countP (·.isNone) := by
  induction m generalizing k with
  | nil => simp at hk
  | cons a m ih =>
    cases k with
    | zero =>
      simp at hn
      subst hn
      simp
    | succ k =>
      have := ih (k := k) (by simpa using hk) (by simpa using hn)
      simp only [List.set_cons_succ, List.countP_cons]
      omega

theorem stepI_ok {n : Nat} {next t : Int} {s s' : IS} (ho : IOk n s) (h0 : 0 ≤ t) (hn : t ≤ n) (h : stepI next t s = .inl s') : IOk n s' ∧ s'.weight ≤ s.weight := by
  unfold stepI at h
  split at h
  · cases h
  · rename_i hne
    have hl := ho.len
    have hk : t.toNat < s.m.length := by omega
    split at h
    · split at h
      · cases h; exact ⟨ho, Nat.le_refl _⟩
      · cases h
    · rename_i hm
      cases h
      have hnot : t.toNat ∉ s.L := fun hin => by
        have := (ho.has _ hin).2
        rw [hm] at this
        cases this
      refine ⟨⟨by simpa using hl, putIn_rise ho.rise hnot, fun j hj => ?_⟩, ?_⟩
      · show j < n ∧ ((s.m.set t.toNat (some next)).getD j none).isSome = true
        rw [getD_set _ _ _ _ _ hk]
        rcases mem_putIn.1 hj with rfl | hj
        · exact ⟨by omega, by simp⟩
        · refine ⟨(ho.has j hj).1, ?_⟩
          split
          · rfl
          · exact (ho.has j hj).2
      · have h1 := countP_set_none (x := next) hk hm
        have h2 := putIn_length t.toNat s.L
        unfold IS.weight
        simp only
        omega

theorem goOnI_ok {n : Nat} {next : Int} : ∀ (ts : List Int) (s s' : IS), (∀ t ∈ ts, 0 ≤ t ∧ t ≤ n) → IOk n s → goOnI next ts s = .inl s' → IOk n s' ∧ s'.weight ≤ s.weight
  | [], s, s', _, ho, h => by
    simp only [goOnI, Sum.inl.injEq] at h
    subst h
    exact ⟨ho, Nat.le_refl _⟩
  | t :: ts, s, s', hp, ho, h => by
    rw [goOnI] at h
    have ht := hp t (by simp)
    split at h
    · rename_i s1 h1
      obtain ⟨o1, w1⟩ := stepI_ok ho ht.1 ht.2 h1
      obtain ⟨o2, w2⟩ := goOnI_ok ts s1 s' (fun t' ht' => hp t' (by simp [ht'])) o1 h
      exact ⟨o2, Nat.le_trans w2 w1⟩
    · cases h

/-! ### the two accounts tell the same, where no height goes below 0 -/

def wtOf (n : Nat) (L : List Nat) : List Bool := (List.range n).map fun j => decide (j ∈ L)
def hsOf (n : Nat) (s : IS) : HS := ⟨s.m.map fun x => x.getD (-1), wtOf n s.L⟩

theorem wtOf_getD (n : Nat) (L : List Nat) (j : Nat) (hj : j < n) : (wtOf n L).getD j false = decide (j ∈ L) := by
  simp [wtOf, List.getD, hj]

theorem wtOf_out (n : Nat) (L : List Nat) (j : Nat) (hj : ¬ j < n) : (wtOf n L).getD j false = false := by
  simp [wtOf, List.getD, hj]

theorem wtOf_length (n : Nat) (L : List Nat) : (wtOf n L).length = n := by simp [wtOf]

theorem wtOf_put (n t : Nat) (L : List Nat) : wtOf n (putIn t L) = (wtOf n L).set t true := by
  apply List.ext_getElem
  · simp [wtOf]
  · intro j h1 h2
    rw [List.getElem_set]
    simp only [wtOf, List.getElem_map, List.getElem_range]
    by_cases h : t = j
    · subst h; simp [mem_putIn]
    · simp only [h, if_false, mem_putIn]
      congr 1
      apply propext
      constructor
      · rintro (h' | h')
        · exact absurd h'.symm h
        · exact h'
      · exact .inr

theorem wtOf_tail (n a : Nat) (L : List Nat) (h : (a :: L).Pairwise (· < ·)) : wtOf n L = (wtOf n (a :: L)).set a false := by
  apply List.ext_getElem
  · simp [wtOf]
  · intro j h1 h2
    rw [List.getElem_set]
    simp only [wtOf, List.getElem_map, List.getElem_range]
    by_cases he : a = j
    · subst he
      have : a ∉ L := fun hin => Nat.lt_irrefl _ ((List.pairwise_cons.1 h).1 a hin)
      simp [this]
    · simp only [he, if_false, List.mem_cons]
      congr 1
      apply propext
      constructor
      · exact .inr
      · rintro (h' | h')
        · exact absurd h'.symm he
        · exact h'

theorem least_head {n a : Nat} {L : List Nat} (ha : a < n) (h : (a :: L).Pairwise (· < ·)) : IsLeast (wtOf n (a :: L)) a := by
  refine ⟨by rw [wtOf_length]; exact ha, by rw [wtOf_getD _ _ _ ha]; simp, fun j hj => ?_⟩
  rw [wtOf_getD _ _ _ (by omega)]
  simp only [decide_eq_false_iff_not, List.mem_cons]
  rintro (h' | h')
  · omega
  · have := (List.pairwise_cons.1 h).1 j h'; omega

theorem none_waits (n : Nat) : ∀ j, (wtOf n []).getD j false = false := fun j => by
  by_cases hj : j < n
  · rw [wtOf_getD _ _ _ hj]; simp
  · exact wtOf_out _ _ _ hj

/-- the Args of no function lie far below 0 -/
def ArgsUp (p : List FnM) : Prop := ∀ f ∈ p, -1000 ≤ f.args

/-- heights are 0 to 8 -/
def HUp (s : IS) : Prop := ∀ j x, s.m.getD j none = some x → 0 ≤ x ∧ x ≤ 8

theorem takesM_up {p : List FnM} (hp : ArgsUp p) (op a : Int) : -1000 ≤ takesM p op a := by
  unfold takesM
  split
  · split
    · rename_i h
      exact hp _ (fnAt_mem h)
    · omega
  · have := takes_row op
    omega

theorem leaves_up {p : List FnM} (hp : ArgsUp p) {hh : Int} {i : Int × Int} (h0 : 0 ≤ hh) (h8 : hh ≤ 8) (ht : takesM p i.1 i.2 ≤ hh) : 0 ≤ leaves p hh i := by
  have h1 := takesM_up hp i.1 i.2
  have h2 := putsM_range i.1
  unfold leaves wrap64
  omega

theorem hsOf_getD {n : Nat} {s : IS} (hl : s.m.length = n) (j : Nat) (hj : j < n) : (hsOf n s).h.getD j 0 = (s.m.getD j none).getD (-1) := by
  simp [hsOf, List.getD, hl, hj]

theorem sim_step {n : Nat} {next t : Int} {s : IS} (ts : List Int) (ho : IOk n s) (hu : HUp s) (h0 : 0 ≤ t) (hn : t ≤ n) (hx : 0 ≤ next) (h8 : next ≤ 8) :
    goOn next (t :: ts) (hsOf n s) = (match stepI next t s with | .inl s' => goOn next ts (hsOf n s') | .inr c => .inr c) ∧ ∀ s', stepI next t s = .inl s' → HUp s' := by
  have hl := ho.len
  have hlh : (hsOf n s).h.length = n := by simpa [hsOf] using hl
  rw [goOn, hlh]
  unfold stepI
  rw [hl]
  by_cases he : t = n
  · rw [if_pos (by omega), if_pos he]
    exact ⟨rfl, fun s' h => by cases h⟩
  · rw [if_neg (by omega), if_neg he]
    have hk : t.toNat < n := by omega
    rw [hsOf_getD hl _ hk]
    cases hm : s.m.getD t.toNat none with
    | some h =>
      have hh := hu _ _ hm
      simp only [Option.getD_some]
      by_cases hq : h = next
      · subst hq
        rw [if_neg (by simp), if_neg (by omega)]
        simp only [if_true]
        exact ⟨trivial, fun s' h => by cases h; exact hu⟩
      · rw [if_pos ⟨hh.1, hq⟩]
        simp only [hq, if_false]
        exact ⟨trivial, fun s' h => by cases h⟩
    | none =>
      simp only [Option.getD_none]
      rw [if_neg (by omega), if_pos (by omega)]
      refine ⟨?_, fun s' h => ?_⟩
      · simp only [hsOf, List.map_set, Option.getD_some, wtOf_put]
      · cases h
        intro j x hj
        rw [getD_set _ _ _ _ _ (by omega)] at hj
        split at hj
        · cases hj; exact ⟨hx, h8⟩
        · exact hu j x hj

theorem sim_goOn {n : Nat} {next : Int} (hx : 0 ≤ next) (h8 : next ≤ 8) : ∀ (ts : List Int) (s : IS), IOk n s → HUp s → (∀ t ∈ ts, 0 ≤ t ∧ t ≤ n) →
    goOn next ts (hsOf n s) = (match goOnI next ts s with | .inl s' => .inl (hsOf n s') | .inr c => .inr c) ∧ ∀ s', goOnI next ts s = .inl s' → HUp s'
  | [], s, _, hu, _ => ⟨rfl, fun s' h => by cases h; exact hu⟩
  | t :: ts, s, ho, hu, hp => by
    have ht := hp t (by simp)
    obtain ⟨h1, h2⟩ := sim_step ts ho hu ht.1 ht.2 hx h8
    rw [h1, goOnI]
    cases hs : stepI next t s with
    | inl s1 => exact sim_goOn hx h8 ts s1 (stepI_ok ho ht.1 ht.2 hs).1 (h2 s1 hs) fun t' ht' => hp t' (by simp [ht'])
    | inr c => exact ⟨rfl, fun s' h => by cases h⟩

/-- one turn -/
def turnI (p : List FnM) (c : List (Int × Int)) (a : Nat) (L : List Nat) (s : IS) : IS ⊕ Int :=
  if badAt p (hOf s a) (insAt c a) then .inr 5 else goOnI (leaves p (hOf s a) (insAt c a)) (goesTo a (insAt c a)) ⟨s.m, L⟩

theorem sim_turn {p : List FnM} (hp : ArgsUp p) {c : List (Int × Int)} {a : Nat} {L : List Nat} {s : IS} (ho : IOk c.length s) (hL : s.L = a :: L) (hu : HUp s) (hto : ∀ t ∈ goesTo a (insAt c a), 0 ≤ t ∧ t ≤ c.length) :
    turn p c a (hsOf c.length s) = (match turnI p c a L s with | .inl s' => .inl (hsOf c.length s') | .inr x => .inr x) ∧ ∀ s', turnI p c a L s = .inl s' → HUp s' := by
  have hin := ho.has a (by rw [hL]; simp)
  obtain ⟨x, hx⟩ := Option.isSome_iff_exists.1 hin.2
  have hux := hu a x hx
  have hhA : (hsOf c.length s).h.getD a 0 = hOf s a := by rw [hsOf_getD ho.len _ hin.1, hOf, hx]; rfl
  have hho : hOf s a = x := by rw [hOf, hx]; rfl
  unfold turn turnI
  rw [hhA, show c.getD a (0, 0) = insAt c a from rfl]
  by_cases hb : badAt p (hOf s a) (insAt c a)
  · rw [if_pos hb, if_pos (by exact hb)]
    exact ⟨rfl, fun s' h => by cases h⟩
  · rw [if_neg hb, if_neg (by exact hb)]
    obtain ⟨hb1, hb2⟩ := not_or.1 hb
    have ho' : IOk c.length ⟨s.m, L⟩ := by
      have hr := ho.rise
      rw [hL] at hr
      exact ⟨ho.len, (List.pairwise_cons.1 hr).2, fun j hj => ho.has j (by rw [hL]; simp [hj])⟩
    have hw : (⟨(hsOf c.length s).h, (hsOf c.length s).wt.set a false⟩ : HS) = hsOf c.length ⟨s.m, L⟩ := by
      have hr := ho.rise
      rw [hL] at hr
      simp only [hsOf, hL]
      rw [← wtOf_tail _ _ _ hr]
    rw [hw]
    exact sim_goOn (leaves_up hp (by omega) (by omega) (by omega)) (by omega) _ _ ho' hu hto

theorem turnI_ok {p : List FnM} {c : List (Int × Int)} {n a : Nat} {L : List Nat} {s s' : IS} (ho : IOk n s) (hL : s.L = a :: L) (hto : ∀ t ∈ goesTo a (insAt c a), 0 ≤ t ∧ t ≤ n) (h : turnI p c a L s = .inl s') :
    IOk n s' ∧ s'.weight < s.weight := by
  unfold turnI at h
  split at h
  · cases h
  · have ho' : IOk n ⟨s.m, L⟩ := by
      have hr := ho.rise
      rw [hL] at hr
      exact ⟨ho.len, (List.pairwise_cons.1 hr).2, fun j hj => ho.has j (by rw [hL]; simp [hj])⟩
    obtain ⟨h1, h2⟩ := goOnI_ok _ _ _ hto ho' h
    refine ⟨h1, ?_⟩
    unfold IS.weight at h2 ⊢
    rw [hL]
    simp only [List.length_cons] at h2 ⊢
    omega

def startI (n : Nat) : IS := ⟨(List.replicate n none).set 0 (some 0), [0]⟩

theorem startI_ok {n : Nat} (h : 1 ≤ n) : IOk n (startI n) := by
  refine ⟨by simp [startI], by simp [startI], fun j hj => ?_⟩
  have : j = 0 := by simpa [startI] using hj
  subst this
  refine ⟨h, ?_⟩
  show (((List.replicate n none).set 0 (some (0 : Int))).getD 0 none).isSome = true
  rw [getD_set _ _ _ _ _ (by rw [List.length_replicate]; omega)]
  rfl

theorem startI_up {n : Nat} (h : 1 ≤ n) : HUp (startI n) := by
  intro j x hj
  have hj' : ((List.replicate n none).set 0 (some (0 : Int))).getD j none = some x := hj
  rw [getD_set _ _ _ _ _ (by rw [List.length_replicate]; omega)] at hj'
  split at hj'
  · cases hj'; omega
  · exfalso
    simp [List.getD, List.getElem?_replicate] at hj'
    split at hj' <;> simp at hj'

theorem startI_hs {n : Nat} (_ : 1 ≤ n) : hsOf n (startI n) = startH n := by
  unfold hsOf startH startI
  congr 1
  · simp
  · apply List.ext_getElem
    · simp [wtOf]
    · intro j h1 h2
      rw [List.getElem_set]
      simp only [wtOf, List.getElem_map, List.getElem_range, List.getElem_replicate]
      by_cases he : 0 = j
      · subst he; simp
      · have : j ≠ 0 := fun e => he e.symm
        simp [he, this]

/-- what stands of the way behind some turns: it comes to what all comes to -/
def OnWay (p : List FnM) (c : List (Int × Int)) (s : IS) : Prop := ArgsUp p → HUp s ∧ ∀ r, HRun p c (hsOf c.length s) r → HRun p c (startH c.length) r

theorem OnWay.start {p : List FnM} {c : List (Int × Int)} (h : 1 ≤ c.length) : OnWay p c (startI c.length) := fun _ => ⟨startI_up h, fun r hr => by rw [startI_hs h] at hr; exact hr⟩

theorem OnWay.more {p : List FnM} {c : List (Int × Int)} {a : Nat} {L : List Nat} {s s' : IS} (hw : OnWay p c s) (ho : IOk c.length s) (hL : s.L = a :: L) (hto : ∀ t ∈ goesTo a (insAt c a), 0 ≤ t ∧ t ≤ c.length) (h : turnI p c a L s = .inl s') : OnWay p c s' := fun hp => by
  obtain ⟨hu, hr⟩ := hw hp
  obtain ⟨h1, h2⟩ := sim_turn hp ho hL hu hto
  rw [h] at h1
  refine ⟨h2 s' h, fun r hr' => hr r (.more _ _ a r ?_ h1 hr')⟩
  have hrise := ho.rise
  have := (ho.has a (by rw [hL]; simp)).1
  rw [hL] at hrise
  show IsLeast (wtOf c.length s.L) a
  rw [hL]
  exact least_head this hrise

theorem OnWay.fault {p : List FnM} {c : List (Int × Int)} {a : Nat} {L : List Nat} {s : IS} {x : Int} (hw : OnWay p c s) (ho : IOk c.length s) (hL : s.L = a :: L) (hto : ∀ t ∈ goesTo a (insAt c a), 0 ≤ t ∧ t ≤ c.length) (h : turnI p c a L s = .inr x) :
    ArgsUp p → HRun p c (startH c.length) (.inr (a, x)) := fun hp => by
  obtain ⟨hu, hr⟩ := hw hp
  obtain ⟨h1, h2⟩ := sim_turn hp ho hL hu hto
  rw [h] at h1
  refine hr _ (.fault _ a x ?_ h1)
  have hrise := ho.rise
  have := (ho.has a (by rw [hL]; simp)).1
  rw [hL] at hrise
  show IsLeast (wtOf c.length s.L) a
  rw [hL]
  exact least_head this hrise

theorem OnWay.done {p : List FnM} {c : List (Int × Int)} {s : IS} (hw : OnWay p c s) (hL : s.L = []) : ArgsUp p → HRun p c (startH c.length) (.inl (hsOf c.length s).h) ∧ HUp s := fun hp => by
  obtain ⟨hu, hr⟩ := hw hp
  refine ⟨hr _ (.done _ fun j => ?_), hu⟩
  show (wtOf c.length s.L).getD j false = false
  rw [hL]
  exact none_waits _ j

theorem goesTo_range {p : List FnM} {f : Nat} {c : List (Int × Int)} (hc : c = (fnAt p f).code) (ha : ∀ j, j < c.length → rightM p f (insAt c j).1 (insAt c j).2 = true) : ∀ j, j < c.length → ∀ t ∈ goesTo j (insAt c j), 0 ≤ t ∧ t ≤ c.length := by
  intro j hj t ht
  have h := ha j hj
  unfold goesTo at ht
  rcases List.mem_append.1 ht with h1 | h1
  · split at h1
    · simp at h1
    · simp at h1; omega
  · split at h1
    · rename_i ho
      simp at h1
      subst h1
      unfold rightM at h
      rw [Bool.and_eq_true] at h
      have h2 := h.2
      rw [if_neg (by omega), if_neg (by omega), if_pos ho] at h2
      simp [inL, ← hc] at h2
      omega
    · simp at h1
end Go.Proofs.YtijgonjnmibifaaGreatDoor
