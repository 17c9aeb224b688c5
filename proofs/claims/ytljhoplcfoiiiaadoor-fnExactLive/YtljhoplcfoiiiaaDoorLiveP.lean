/- What is asked for later, as lists: where a slot is live. -/
import Derived.Test.YtljhoplcfoiiiaaDoorBitP
import Derived.Test.YtljhoplcfoiiiaaDoorHeightR
namespace Go.Proofs.YtljhoplcfoiiiaaDoor
open Go.RowKit

/-- what is asked for: read at a place, or asked for at a place to which it goes on, and kept on the way -/
inductive Asked (nx : Nat → List Int) (rd : Nat → Nat) (kp : Nat → Nat → Bool) : Nat → Nat → Prop
  | read (a k : Nat) : (rd a).testBit k = true → Asked nx rd kp a k
  | flow (a t k : Nat) : (t : Int) ∈ nx a → Asked nx rd kp t k → kp a k = true → Asked nx rd kp a k

/-- sets that have just what is asked for -/
def AskedIs (nx : Nat → List Int) (rd : Nat → Nat) (kp : Nat → Nat → Bool) (n : Nat) (zs : List Nat) : Prop :=
  zs.length = n ∧ (∀ a, a < n → zs.getD a 0 < 65536) ∧ ∀ a k, a < n → ((zs.getD a 0).testBit k = true ↔ Asked nx rd kp a k)

theorem AskedIs.unique {nx : Nat → List Int} {rd : Nat → Nat} {kp : Nat → Nat → Bool} {n : Nat} {zs zs' : List Nat} (h : AskedIs nx rd kp n zs) (h' : AskedIs nx rd kp n zs') : zs = zs' := by
  apply List.ext_getElem (by rw [h.1, h'.1])
  intro a h1 h2
  have e1 : zs.getD a 0 = zs[a] := by simp [List.getD, h1]
  have e2 : zs'.getD a 0 = zs'[a] := by simp [List.getD, h2]
  rw [← e1, ← e2]
  apply Nat.eq_of_testBit_eq
  intro k
  have h3 := h.2.2 a k (by rw [← h.1]; exact h1)
  have h4 := h'.2.2 a k (by rw [← h.1]; exact h1)
  rw [Bool.eq_iff_iff, h3, h4]

theorem Asked.mono {nx : Nat → List Int} {rd : Nat → Nat} {kp kp' : Nat → Nat → Bool} (h : ∀ a t k : Nat, (t : Int) ∈ nx a → Asked nx rd kp t k → kp a k = true → kp' a k = true) {a k : Nat} (x : Asked nx rd kp a k) : Asked nx rd kp' a k := by
  induction x with
  | read a k h1 => exact .read a k h1
  | flow a t k h1 h2 h3 ih => exact .flow a t k h1 ih (h a t k h1 h2 h3)

theorem getD_setN (l : List Nat) (j k x : Nat) (hj : j < l.length) : (l.set j x).getD k 0 = if j = k then x else l.getD k 0 := by
  simp only [List.getD, List.getElem?_set]
  by_cases h : j = k
  · subst h; simp [hj]
  · simp [h]

theorem sum_set (l : List Nat) (j x : Nat) (hj : j < l.length) : (l.set j x).sum + l.getD j 0 = l.sum + x := by
  induction l generalizing j with
  | nil => simp at hj
  | cons y l ih =>
    cases j with
    | zero => simp; omega
    | succ j =>
      simp only [List.set_cons_succ, List.sum_cons, List.getD_cons_succ]
      have := ih j (by simpa using hj)
      omega

theorem sum_lt (l : List Nat) (h : ∀ a, a < l.length → l.getD a 0 < 65536) : l.sum ≤ l.length * 65536 := by
  induction l with
  | nil => simp
  | cons y l ih =>
    have h0 := h 0 (by simp)
    have := ih (fun a ha => by have := h (a + 1) (by simpa using ha); simpa using this)
    simp at h0
    simp only [List.sum_cons, List.length_cons]
    omega

/-- all that is told of a function of a right program, place by place -/
structure Fun8 (p : List FnM) (c : List (Int × Int)) (L : Nat) (hs : List Int) : Prop where
  l8 : L ≤ 8
  len : hs.length = c.length
  one : 1 ≤ c.length
  top : c.length ≤ 60
  range : ∀ j, j < c.length → hs.getD j 0 = -1 ∨ (0 ≤ hs.getD j 0 ∧ hs.getD j 0 ≤ 8)
  takes : ∀ j, j < c.length → 0 ≤ hs.getD j 0 → 0 ≤ takesM p (insAt c j).1 (insAt c j).2 ∧ takesM p (insAt c j).1 (insAt c j).2 ≤ hs.getD j 0
  puts : ∀ j, j < c.length → 0 ≤ hs.getD j 0 → 0 ≤ putsM (insAt c j).1 ∧ hs.getD j 0 - takesM p (insAt c j).1 (insAt c j).2 + putsM (insAt c j).1 ≤ 8
  next : ∀ j, j < c.length → 0 ≤ hs.getD j 0 → ∀ t ∈ goesTo j (insAt c j), 0 ≤ t ∧ t < c.length ∧ hs.getD t.toNat 0 = hs.getD j 0 - takesM p (insAt c j).1 (insAt c j).2 + putsM (insAt c j).1
  slot : ∀ j, j < c.length → ((insAt c j).1 = 2 ∨ (insAt c j).1 = 3) → 0 ≤ (insAt c j).2 ∧ (insAt c j).2 < L

def hiM (L : Nat) (hs : List Int) (a : Nat) : Nat := (L + hs.getD a 0).toNat
def loM (p : List FnM) (c : List (Int × Int)) (L : Nat) (hs : List Int) (a : Nat) : Nat := (L + hs.getD a 0 - takesM p (insAt c a).1 (insAt c a).2).toNat
def upM (p : List FnM) (c : List (Int × Int)) (L : Nat) (hs : List Int) (a : Nat) : Nat := loM p c L hs a + (putsM (insAt c a).1).toNat

def nxM (c : List (Int × Int)) (hs : List Int) (a : Nat) : List Int := if 0 ≤ hs.getD a 0 then goesTo a (insAt c a) else []
def rdM (p : List FnM) (c : List (Int × Int)) (L : Nat) (hs : List Int) (a : Nat) : Nat :=
  if 0 ≤ hs.getD a 0 then (if (insAt c a).1 = 2 then 2 ^ (insAt c a).2.toNat else mask (loM p c L hs a) (hiM L hs a)) else 0
def wrI (p : List FnM) (c : List (Int × Int)) (L : Nat) (hs : List Int) (a : Nat) : Nat :=
  if 0 ≤ hs.getD a 0 then (if (insAt c a).1 = 3 then 2 ^ (insAt c a).2.toNat else mask (loM p c L hs a) (hiM L hs a) ||| mask (loM p c L hs a) (upM p c L hs a)) else 0
def wrS (p : List FnM) (c : List (Int × Int)) (L : Nat) (hs : List Int) (a : Nat) : Nat :=
  if (insAt c a).1 = 3 then 2 ^ (insAt c a).2.toNat else mask (loM p c L hs a) (upM p c L hs a)
def kpI (p : List FnM) (c : List (Int × Int)) (L : Nat) (hs : List Int) (a k : Nat) : Bool := !(wrI p c L hs a).testBit k
def kpS (p : List FnM) (c : List (Int × Int)) (L : Nat) (hs : List Int) (a k : Nat) : Bool := !(wrS p c L hs a).testBit k && decide (k < hiM L hs a)

theorem takes3 (p : List FnM) (i : Int × Int) (h : i.1 = 3) : takesM p i.1 i.2 = 1 ∧ putsM i.1 = 0 := by
  rw [h]; exact ⟨rfl, rfl⟩

variable {p : List FnM} {c : List (Int × Int)} {L : Nat} {hs : List Int}

theorem Fun8.lo_hi (F : Fun8 p c L hs) {a : Nat} (ha : a < c.length) (h : 0 ≤ hs.getD a 0) : loM p c L hs a ≤ hiM L hs a ∧ hiM L hs a ≤ 16 ∧ upM p c L hs a ≤ 16 ∧ L ≤ loM p c L hs a := by
  have h1 := F.takes a ha h
  have h2 := F.puts a ha h
  have h3 := F.range a ha
  have h4 := F.l8
  unfold upM loM hiM
  omega

theorem Fun8.hi_next (F : Fun8 p c L hs) {a t : Nat} (ha : a < c.length) (h : (t : Int) ∈ nxM c hs a) : 0 ≤ hs.getD a 0 ∧ t < c.length ∧ 0 ≤ hs.getD t 0 ∧ hiM L hs t = upM p c L hs a := by
  unfold nxM at h
  split at h
  · rename_i h0
    obtain ⟨k1, k2, k3⟩ := F.next a ha h0 t h
    have h1 := F.takes a ha h0
    have h2 := F.puts a ha h0
    rw [Int.toNat_natCast] at k3
    refine ⟨h0, by omega, by omega, ?_⟩
    unfold upM loM hiM
    omega
  · simp at h

theorem Fun8.rd_hi (F : Fun8 p c L hs) {a k : Nat} (ha : a < c.length) (h : (rdM p c L hs a).testBit k = true) : k < hiM L hs a ∧ 0 ≤ hs.getD a 0 := by
  unfold rdM at h
  split at h
  · rename_i h0
    obtain ⟨q1, q2, q3, q4⟩ := F.lo_hi ha h0
    refine ⟨?_, h0⟩
    split at h
    · rename_i h2
      have hs2 := F.slot a ha (.inl h2)
      rw [Nat.testBit_two_pow] at h
      simp at h
      omega
    · rw [mask_bit q1] at h
      simp at h
      omega
  · simp at h

theorem Fun8.rd_lt (F : Fun8 p c L hs) {a : Nat} (ha : a < c.length) : rdM p c L hs a < 65536 := by
  unfold rdM
  split
  · rename_i h0
    obtain ⟨q1, q2, q3, q4⟩ := F.lo_hi ha h0
    split
    · rename_i h2
      have hs2 := F.slot a ha (.inl h2)
      have := F.l8
      exact pow_small (by omega)
    · exact mask_small q2
  · omega

theorem Fun8.wrS_lt (F : Fun8 p c L hs) {a : Nat} (ha : a < c.length) (h0 : 0 ≤ hs.getD a 0) : wrS p c L hs a < 65536 := by
  unfold wrS
  obtain ⟨q1, q2, q3, q4⟩ := F.lo_hi ha h0
  split
  · rename_i h2
    have hs2 := F.slot a ha (.inr h2)
    have := F.l8
    exact pow_small (by omega)
  · exact mask_small q3

theorem Fun8.wrI_lt (F : Fun8 p c L hs) {a : Nat} (ha : a < c.length) : wrI p c L hs a < 65536 := by
  unfold wrI
  split
  · rename_i h0
    obtain ⟨q1, q2, q3, q4⟩ := F.lo_hi ha h0
    split
    · rename_i h2
      have hs2 := F.slot a ha (.inr h2)
      have := F.l8
      exact pow_small (by omega)
    · exact or_lt (mask_small q2) (mask_small q3)
  · omega

/-- what is live is there -/
theorem Fun8.live_hi (F : Fun8 p c L hs) {kp : Nat → Nat → Bool} (hk : ∀ a t k : Nat, a < c.length → (t : Int) ∈ nxM c hs a → k < upM p c L hs a → kp a k = true → k < hiM L hs a) {a k : Nat} (ha : a < c.length) (x : Asked (nxM c hs) (rdM p c L hs) kp a k) : k < hiM L hs a := by
  induction x with
  | read a k h1 => exact (F.rd_hi ha h1).1
  | flow a t k h1 _ h3 ih =>
    obtain ⟨_, q2, _, q4⟩ := F.hi_next ha h1
    exact hk a t k ha h1 (by rw [← q4]; exact ih q2) h3

theorem Fun8.kp_hi (F : Fun8 p c L hs) {a t k : Nat} (ha : a < c.length) (h : (t : Int) ∈ nxM c hs a) (hu : k < upM p c L hs a) : (kpI p c L hs a k = true → k < hiM L hs a) ∧ (kpI p c L hs a k = true ↔ kpS p c L hs a k = true) := by
  obtain ⟨h0, _, _, _⟩ := F.hi_next ha h
  obtain ⟨q1, q2, q3, q4⟩ := F.lo_hi ha h0
  have hlu : loM p c L hs a ≤ upM p c L hs a := by unfold upM; omega
  unfold kpI kpS wrI wrS
  rw [if_pos h0]
  by_cases h3 : (insAt c a).1 = 3
  · obtain ⟨t1, t2⟩ := takes3 p (insAt c a) h3
    have hup : upM p c L hs a ≤ hiM L hs a := by
      unfold upM
      rw [t2]
      simpa using q1
    rw [if_pos h3, if_pos h3]
    refine ⟨fun _ => by omega, ?_⟩
    simp
    omega
  · rw [if_neg h3, if_neg h3, Nat.testBit_or, mask_bit q1, mask_bit hlu]
    simp
    omega

theorem Fun8.same (F : Fun8 p c L hs) {a k : Nat} (ha : a < c.length) : Asked (nxM c hs) (rdM p c L hs) (kpI p c L hs) a k ↔ Asked (nxM c hs) (rdM p c L hs) (kpS p c L hs) a k := by
  have hI : ∀ a t k : Nat, a < c.length → (t : Int) ∈ nxM c hs a → k < upM p c L hs a → kpI p c L hs a k = true → k < hiM L hs a := fun a t k ha h hu hk => (F.kp_hi ha h hu).1 hk
  have hS : ∀ a t k : Nat, a < c.length → (t : Int) ∈ nxM c hs a → k < upM p c L hs a → kpS p c L hs a k = true → k < hiM L hs a := fun a t k ha h hu hk => (F.kp_hi ha h hu).1 ((F.kp_hi ha h hu).2.2 hk)
  constructor
  · intro x
    induction x with
    | read a k h1 => exact .read a k h1
    | flow a t k h1 h2 h3 ih =>
      obtain ⟨_, q2, _, q4⟩ := F.hi_next ha h1
      exact .flow a t k h1 (ih q2) ((F.kp_hi ha h1 (by rw [← q4]; exact F.live_hi hI q2 h2)).2.1 h3)
  · intro x
    induction x with
    | read a k h1 => exact .read a k h1
    | flow a t k h1 h2 h3 ih =>
      obtain ⟨_, q2, _, q4⟩ := F.hi_next ha h1
      exact .flow a t k h1 (ih q2) ((F.kp_hi ha h1 (by rw [← q4]; exact F.live_hi hS q2 h2)).2.2 h3)

/-- what is live, place by place -/
def LiveIs (p : List FnM) (c : List (Int × Int)) (L : Nat) (hs : List Int) (zs : List Nat) : Prop := AskedIs (nxM c hs) (rdM p c L hs) (kpS p c L hs) c.length zs

theorem Fun8.liveI (F : Fun8 p c L hs) {zs : List Nat} (h : AskedIs (nxM c hs) (rdM p c L hs) (kpI p c L hs) c.length zs) : LiveIs p c L hs zs :=
  ⟨h.1, h.2.1, fun a k ha => (h.2.2 a k ha).trans (F.same ha)⟩

theorem RightP.fun8 {p : List FnM} (h : RightP p) (f : Nat) (hf : f < p.length) {hs : List Int} (hr : HRun p (fnAt p f).code (startH (fnAt p f).code.length) (.inl hs)) :
    0 ≤ (fnAt p f).locals ∧ Fun8 p (fnAt p f).code (fnAt p f).locals.toNat hs := by
  obtain ⟨hs', hr', q1, q2, _, q4, q5⟩ := h.heights f hf
  have he : hs' = hs := by simpa using hr'.unique hr
  subst he
  obtain ⟨w1, w2, _⟩ := ((h.all).2.2 f hf).well rfl
  have hform : 0 ≤ (fnAt p f).args ∧ (fnAt p f).args ≤ (fnAt p f).locals ∧ (fnAt p f).locals ≤ 8 ∧ 1 ≤ (fnAt p f).code.length ∧ (fnAt p f).code.length ≤ 60 := by simp [formOk] at w1; omega
  have hto := goesTo_nat w2
  rw [q1] at q4 q5
  refine ⟨by omega, ⟨by omega, q1, by omega, by omega, q4, ?_, ?_, ?_, ?_⟩⟩
  · intro j hj h0
    exact ⟨(takesM_range h.args _ _).1, (q5 j hj h0).1⟩
  · intro j hj h0
    have h8 : hs'.getD j 0 ≤ 8 := by have := q4 j hj; omega
    obtain ⟨g1, g2, g3⟩ := q5 j hj h0
    have := leaves_plain h.args h0 h8 g1
    exact ⟨(putsM_range _).1, by omega⟩
  · intro j hj h0 t ht
    have h8 : hs'.getD j 0 ≤ 8 := by have := q4 j hj; omega
    obtain ⟨g1, g2, g3⟩ := q5 j hj h0
    have hl := leaves_plain h.args h0 h8 g1
    exact ⟨hto j hj t ht, (g3 t ht).1, by rw [(g3 t ht).2]; exact hl.1⟩
  · intro j hj ho
    have hw := w2 j hj
    rcases ho with h2 | h2
    all_goals
      rw [h2] at hw
      simp [rightM] at hw
      omega
end Go.Proofs.YtljhoplcfoiiiaaDoor
