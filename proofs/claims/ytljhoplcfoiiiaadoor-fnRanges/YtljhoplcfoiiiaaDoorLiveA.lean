/- What is asked for later, as lists: where a slot is live. Rounds of a fixpoint: from the last place to the first, until nothing grows. Ranges of slots, as lists. -/
import Derived.Test.YtljhoplcfoiiiaaDoorBitA
import Derived.Test.YtljhoplcfoiiiaaDoorHeightR
namespace Go.Proofs.YtljhoplcfoiiiaaDoor
open Go.RowKit

/-- what is asked for: read at a place, or asked for at a place to which it goes on, and kept on the way -/
inductive Asked (nx : Nat → List Int) (rd : Nat → Nat) (kp : Nat → Nat → Bool) : Nat → Nat → Prop
  | read (a k : Nat) : (rd a).testBit k = true → Asked nx rd kp a k
  | flow (a t k : Nat) : (t : Int) ∈ nx a → Asked nx rd kp t k → kp a k = true → Asked nx rd kp a k

/-- sets that have just what is asked for -/
def AskedIs (nx : Nat → List Int) (rd : Nat → Nat) (kp : Nat → Nat → Bool) (n : Nat) (zs : List Nat) : Prop :=
  zs.length = n ∧ (∀ a, a < n → zs.getD a 0 < 65536) ∧ ∀ a k, a < n → ((zs.getD a 0).testBit k = true ↔ Asked nx rd kp a k)

theorem AskedIs.unique {nx : Nat → List Int} {rd : Nat → Nat} {kp : Nat → Nat → Bool} {n : Nat} {zs zs' : List Nat} (h : AskedIs nx rd kp n zs) (h' : AskedIs nx rd kp n zs') : zs = zs' := by
  apply List.ext_getElem (by rw [h.1, h'.1])
  intro a h1 h2
  have e1 : zs.getD a 0 = zs[a] := by simp [List.getD, h1]
  have e2 : zs'.getD a 0 = zs'[a] := by simp [List.getD, h2]
  rw [← e1, ← e2]
  apply Nat.eq_of_testBit_eq
  intro k
  have h3 := h.2.2 a k (by rw [← h.1]; exact h1)
  have h4 := h'.2.2 a k (by rw [← h.1]; exact h1)
  rw [Bool.eq_iff_iff, h3, h4]

theorem Asked.mono {nx : Nat → List Int} {rd : Nat → Nat} {kp kp' : Nat → Nat → Bool} (h : ∀ a t k : Nat, (t : Int) ∈ nx a → Asked nx rd kp t k → kp a k = true → kp' a k = true) {a k : Nat} (x : Asked nx rd kp a k) : Asked nx rd kp' a k := by
  induction x with
  | read a k h1 => exact .read a k h1
  | flow a t k h1 h2 h3 ih => exact .flow a t k h1 ih (h a t k h1 h2 h3)

theorem getD_setN (l : List Nat) (j k x : Nat) (hj : j < l.length) : (l.set j x).getD k 0 = if j = k then x else l.getD k 0 := by
  simp only [List.getD, List.getElem?_set]
  by_cases h : j = k
  · subst h; simp [hj]
  · simp [h]

theorem sum_set (l : List Nat) (j x : Nat) (hj : j < l.length) : (l.set j x).sum + l.getD j 0 = l.sum + x := by
  induction l generalizing j with
  | nil => simp at hj
  | cons y l ih =>
    cases j with
    | zero => simp; omega
    | succ j =>
      simp only [List.set_cons_succ, List.sum_cons, List.getD_cons_succ]
      have := ih j (by simpa using hj)
      omega

theorem sum_lt (l : List Nat) (h : ∀ a, a < l.length → l.getD a 0 < 65536) : l.sum ≤ l.length * 65536 := by
  induction l with
  | nil => simp
  | cons y l ih =>
    have h0 := h 0 (by simp)
    have := ih (fun a ha => by have := h (a + 1) (by simpa using ha); simpa using this)
    simp at h0
    simp only [List.sum_cons, List.length_cons]
    omega

/-- all that is told of a function of a right program, place by place -/
structure Fun8 (p : List FnM) (c : List (Int × Int)) (L : Nat) (hs : List Int) : Prop where
  l8 : L ≤ 8
  len : hs.length = c.length
  one : 1 ≤ c.length
  top : c.length ≤ 60
  range : ∀ j, j < c.length → hs.getD j 0 = -1 ∨ (0 ≤ hs.getD j 0 ∧ hs.getD j 0 ≤ 8)
  takes : ∀ j, j < c.length → 0 ≤ hs.getD j 0 → 0 ≤ takesM p (insAt c j).1 (insAt c j).2 ∧ takesM p (insAt c j).1 (insAt c j).2 ≤ hs.getD j 0
  puts : ∀ j, j < c.length → 0 ≤ hs.getD j 0 → 0 ≤ putsM (insAt c j).1 ∧ hs.getD j 0 - takesM p (insAt c j).1 (insAt c j).2 + putsM (insAt c j).1 ≤ 8
  next : ∀ j, j < c.length → 0 ≤ hs.getD j 0 → ∀ t ∈ goesTo j (insAt c j), 0 ≤ t ∧ t < c.length ∧ hs.getD t.toNat 0 = hs.getD j 0 - takesM p (insAt c j).1 (insAt c j).2 + putsM (insAt c j).1
  slot : ∀ j, j < c.length → ((insAt c j).1 = 2 ∨ (insAt c j).1 = 3) → 0 ≤ (insAt c j).2 ∧ (insAt c j).2 < L

def hiM (L : Nat) (hs : List Int) (a : Nat) : Nat := (L + hs.getD a 0).toNat
def loM (p : List FnM) (c : List (Int × Int)) (L : Nat) (hs : List Int) (a : Nat) : Nat := (L + hs.getD a 0 - takesM p (insAt c a).1 (insAt c a).2).toNat
def upM (p : List FnM) (c : List (Int × Int)) (L : Nat) (hs : List Int) (a : Nat) : Nat := loM p c L hs a + (putsM (insAt c a).1).toNat

def nxM (c : List (Int × Int)) (hs : List Int) (a : Nat) : List Int := if 0 ≤ hs.getD a 0 then goesTo a (insAt c a) else []
def rdM (p : List FnM) (c : List (Int × Int)) (L : Nat) (hs : List Int) (a : Nat) : Nat :=
  if 0 ≤ hs.getD a 0 then (if (insAt c a).1 = 2 then 2 ^ (insAt c a).2.toNat else mask (loM p c L hs a) (hiM L hs a)) else 0
def wrI (p : List FnM) (c : List (Int × Int)) (L : Nat) (hs : List Int) (a : Nat) : Nat :=
  if 0 ≤ hs.getD a 0 then (if (insAt c a).1 = 3 then 2 ^ (insAt c a).2.toNat else mask (loM p c L hs a) (hiM L hs a) ||| mask (loM p c L hs a) (upM p c L hs a)) else 0
def wrS (p : List FnM) (c : List (Int × Int)) (L : Nat) (hs : List Int) (a : Nat) : Nat :=
  if (insAt c a).1 = 3 then 2 ^ (insAt c a).2.toNat else mask (loM p c L hs a) (upM p c L hs a)
def kpI (p : List FnM) (c : List (Int × Int)) (L : Nat) (hs : List Int) (a k : Nat) : Bool := !(wrI p c L hs a).testBit k
def kpS (p : List FnM) (c : List (Int × Int)) (L : Nat) (hs : List Int) (a k : Nat) : Bool := !(wrS p c L hs a).testBit k && decide (k < hiM L hs a)

theorem takes3 (p : List FnM) (i : Int × Int) (h : i.1 = 3) : takesM p i.1 i.2 = 1 ∧ putsM i.1 = 0 := by
  rw [h]; exact ⟨rfl, rfl⟩

variable {p : List FnM} {c : List (Int × Int)} {L : Nat} {hs : List Int}

theorem Fun8.lo_hi (F : Fun8 p c L hs) {a : Nat} (ha : a < c.length) (h : 0 ≤ hs.getD a 0) : loM p c L hs a ≤ hiM L hs a ∧ hiM L hs a ≤ 16 ∧ upM p c L hs a ≤ 16 ∧ L ≤ loM p c L hs a := by
  have h1 := F.takes a ha h
  have h2 := F.puts a ha h
  have h3 := F.range a ha
  have h4 := F.l8
  unfold upM loM hiM
  omega

theorem Fun8.hi_next (F : Fun8 p c L hs) {a t : Nat} (ha : a < c.length) (h : (t : Int) ∈ nxM c hs a) : 0 ≤ hs.getD a 0 ∧ t < c.length ∧ 0 ≤ hs.getD t 0 ∧ hiM L hs t = upM p c L hs a := by
  unfold nxM at h
  split at h
  · rename_i h0
    obtain ⟨k1, k2, k3⟩ := F.next a ha h0 t h
    have h1 := F.takes a ha h0
    have h2 := F.puts a ha h0
    rw [Int.toNat_natCast] at k3
    refine ⟨h0, by omega, by omega, ?_⟩
    unfold upM loM hiM
    omega
  · simp at h

theorem Fun8.rd_hi (F : Fun8 p c L hs) {a k : Nat} (ha : a < c.length) (h : (rdM p c L hs a).testBit k = true) : k < hiM L hs a ∧ 0 ≤ hs.getD a 0 := by
  unfold rdM at h
  split at h
  · rename_i h0
    obtain ⟨q1, q2, q3, q4⟩ := F.lo_hi ha h0
    refine ⟨?_, h0⟩
    split at h
    · rename_i h2
      have hs2 := F.slot a ha (.inl h2)
      rw [Nat.testBit_two_pow] at h
      simp at h
      omega
    · rw [mask_bit q1] at h
      simp at h
      omega
  · simp at h

theorem Fun8.rd_lt (F : Fun8 p c L hs) {a : Nat} (ha : a < c.length) : rdM p c L hs a < 65536 := by
  unfold rdM
  split
  · rename_i h0
    obtain ⟨q1, q2, q3, q4⟩ := F.lo_hi ha h0
    split
    · rename_i h2
      have hs2 := F.slot a ha (.inl h2)
      have := F.l8
      exact pow_small (by omega)
    · exact mask_small q2
  · omega

theorem Fun8.wrS_lt (F : Fun8 p c L hs) {a : Nat} (ha : a < c.length) (h0 : 0 ≤ hs.getD a 0) : wrS p c L hs a < 65536 := by
  unfold wrS
  obtain ⟨q1, q2, q3, q4⟩ := F.lo_hi ha h0
  split
  · rename_i h2
    have hs2 := F.slot a ha (.inr h2)
    have := F.l8
    exact pow_small (by omega)
  · exact mask_small q3

theorem Fun8.wrI_lt (F : Fun8 p c L hs) {a : Nat} (ha : a < c.length) : wrI p c L hs a < 65536 := by
  unfold wrI
  split
  · rename_i h0
    obtain ⟨q1, q2, q3, q4⟩ := F.lo_hi ha h0
    split
    · rename_i h2
      have hs2 := F.slot a ha (.inr h2)
      have := F.l8
      exact pow_small (by omega)
    · exact or_lt (mask_small q2) (mask_small q3)
  · omega

/-- what is live is there -/
theorem Fun8.live_hi (F : Fun8 p c L hs) {kp : Nat → Nat → Bool} (hk : ∀ a t k : Nat, a < c.length → (t : Int) ∈ nxM c hs a → k < upM p c L hs a → kp a k = true → k < hiM L hs a) {a k : Nat} (ha : a < c.length) (x : Asked (nxM c hs) (rdM p c L hs) kp a k) : k < hiM L hs a := by
  induction x with
  | read a k h1 => exact (F.rd_hi ha h1).1
  | flow a t k h1 _ h3 ih =>
    obtain ⟨_, q2, _, q4⟩ := F.hi_next ha h1
    exact hk a t k ha h1 (by rw [← q4]; exact ih q2) h3

theorem Fun8.kp_hi (F : Fun8 p c L hs) {a t k : Nat} (ha : a < c.length) (h : (t : Int) ∈ nxM c hs a) (hu : k < upM p c L hs a) : (kpI p c L hs a k = true → k < hiM L hs a) ∧ (kpI p c L hs a k = true ↔ kpS p c L hs a k = true) := by
  obtain ⟨h0, _, _, _⟩ := F.hi_next ha h
  obtain ⟨q1, q2, q3, q4⟩ := F.lo_hi ha h0
  have hlu : loM p c L hs a ≤ upM p c L hs a := by unfold upM; omega
  unfold kpI kpS wrI wrS
  rw [if_pos h0]
  by_cases h3 : (insAt c a).1 = 3
  · obtain ⟨t1, t2⟩ := takes3 p (insAt c a) h3
    have hup : upM p c L hs a ≤ hiM L hs a := by
      unfold upM
      rw [t2]
      simpa using q1
    rw [if_pos h3, if_pos h3]
    refine ⟨fun _ => by omega, ?_⟩
    simp
    omega
  · rw [if_neg h3, if_neg h3, Nat.testBit_or, mask_bit q1, mask_bit hlu]
    simp
    omega

theorem Fun8.same (F : Fun8 p c L hs) {a k : Nat} (ha : a < c.length) : Asked (nxM c hs) (rdM p c L hs) (kpI p c L hs) a k ↔ Asked (nxM c hs) (rdM p c L hs) (kpS p c L hs) a k := by
  have hI : ∀ a t k : Nat, a < c.length → (t : Int) ∈ nxM c hs a → k < upM p c L hs a → kpI p c L hs a k = true → k < hiM L hs a := fun a t k ha h hu hk => (F.kp_hi ha h hu).1 hk
  have hS : ∀ a t k : Nat, a < c.length → (t : Int) ∈ nxM c hs a → k < upM p c L hs a → kpS p c L hs a k = true → k < hiM L hs a := fun a t k ha h hu hk => (F.kp_hi ha h hu).1 ((F.kp_hi ha h hu).2.2 hk)
  constructor
  · intro x
    induction x with
    | read a k h1 => exact .read a k h1
    | flow a t k h1 h2 h3 ih =>
      obtain ⟨_, q2, _, q4⟩ := F.hi_next ha h1
      exact .flow a t k h1 (ih q2) ((F.kp_hi ha h1 (by rw [← q4]; exact F.live_hi hI q2 h2)).2.1 h3)
  · intro x
    induction x with
    | read a k h1 => exact .read a k h1
    | flow a t k h1 h2 h3 ih =>
      obtain ⟨_, q2, _, q4⟩ := F.hi_next ha h1
      exact .flow a t k h1 (ih q2) ((F.kp_hi ha h1 (by rw [← q4]; exact F.live_hi hS q2 h2)).2.2 h3)

/-- what is live, place by place -/
def LiveIs (p : List FnM) (c : List (Int × Int)) (L : Nat) (hs : List Int) (zs : List Nat) : Prop := AskedIs (nxM c hs) (rdM p c L hs) (kpS p c L hs) c.length zs

theorem Fun8.liveI (F : Fun8 p c L hs) {zs : List Nat} (h : AskedIs (nxM c hs) (rdM p c L hs) (kpI p c L hs) c.length zs) : LiveIs p c L hs zs :=
  ⟨h.1, h.2.1, fun a k ha => (h.2.2 a k ha).trans (F.same ha)⟩

theorem RightP.fun8 {p : List FnM} (h : RightP p) (f : Nat) (hf : f < p.length) {hs : List Int} (hr : HRun p (fnAt p f).code (startH (fnAt p f).code.length) (.inl hs)) :
    0 ≤ (fnAt p f).locals ∧ Fun8 p (fnAt p f).code (fnAt p f).locals.toNat hs := by
  obtain ⟨hs', hr', q1, q2, _, q4, q5⟩ := h.heights f hf
  have he : hs' = hs := by simpa using hr'.unique hr
  subst he
  obtain ⟨w1, w2, _⟩ := ((h.all).2.2 f hf).well rfl
  have hform : 0 ≤ (fnAt p f).args ∧ (fnAt p f).args ≤ (fnAt p f).locals ∧ (fnAt p f).locals ≤ 8 ∧ 1 ≤ (fnAt p f).code.length ∧ (fnAt p f).code.length ≤ 60 := by simp [formOk] at w1; omega
  have hto := goesTo_nat w2
  rw [q1] at q4 q5
  refine ⟨by omega, ⟨by omega, q1, by omega, by omega, q4, ?_, ?_, ?_, ?_⟩⟩
  · intro j hj h0
    exact ⟨(takesM_range h.args _ _).1, (q5 j hj h0).1⟩
  · intro j hj h0
    have h8 : hs'.getD j 0 ≤ 8 := by have := q4 j hj; omega
    obtain ⟨g1, g2, g3⟩ := q5 j hj h0
    have := leaves_plain h.args h0 h8 g1
    exact ⟨(putsM_range _).1, by omega⟩
  · intro j hj h0 t ht
    have h8 : hs'.getD j 0 ≤ 8 := by have := q4 j hj; omega
    obtain ⟨g1, g2, g3⟩ := q5 j hj h0
    have hl := leaves_plain h.args h0 h8 g1
    exact ⟨hto j hj t ht, (g3 t ht).1, by rw [(g3 t ht).2]; exact hl.1⟩
  · intro j hj ho
    have hw := w2 j hj
    rcases ho with h2 | h2
    all_goals
      rw [h2] at hw
      simp [rightM] at hw
      omega
end Go.Proofs.YtljhoplcfoiiiaaDoor

namespace Go.Proofs.YtljhoplcfoiiiaaDoor
open Go.RowKit

variable {nx : Nat → List Int} {rd : Nat → Nat} {kp : Nat → Nat → Bool} {n : Nat}

/-- asked for at a place, by the sets as they are -/
def FromNow (nx : Nat → List Int) (rd : Nat → Nat) (kp : Nat → Nat → Bool) (zs : List Nat) (a k : Nat) : Prop :=
  (rd a).testBit k = true ∨ ∃ t : Nat, (t : Int) ∈ nx a ∧ (zs.getD t 0).testBit k = true ∧ kp a k = true

def Closed (nx : Nat → List Int) (rd : Nat → Nat) (kp : Nat → Nat → Bool) (zs : List Nat) (a : Nat) : Prop := ∀ k, FromNow nx rd kp zs a k → (zs.getD a 0).testBit k = true

structure Sets (nx : Nat → List Int) (rd : Nat → Nat) (kp : Nat → Nat → Bool) (n : Nat) (zs : List Nat) : Prop where
  len : zs.length = n
  lt : ∀ a, a < n → zs.getD a 0 < 65536
  sound : ∀ a k, a < n → (zs.getD a 0).testBit k = true → Asked nx rd kp a k

structure Back (nx : Nat → List Int) (rd : Nat → Nat) (kp : Nat → Nat → Bool) (n : Nat) (zs0 zs : List Nat) (gr : Bool) (q : Nat) : Prop where
  sets : Sets nx rd kp n zs
  still : gr = false → zs = zs0 ∧ ∀ a, q ≤ a → a < n → Closed nx rd kp zs a
  more : gr = true → zs0.sum < zs.sum

theorem Sets.done {zs : List Nat} (S : Sets nx rd kp n zs) (hn : ∀ a t : Nat, a < n → (t : Int) ∈ nx a → t < n) (h : ∀ a, a < n → Closed nx rd kp zs a) : AskedIs nx rd kp n zs := by
  refine ⟨S.len, S.lt, fun a k ha => ⟨S.sound a k ha, fun x => ?_⟩⟩
  induction x with
  | read a k h1 => exact h a ha k (.inl h1)
  | flow a t k h1 h2 h3 ih => exact h a ha k (.inr ⟨t, h1, ih (hn a t ha h1), h3⟩)

theorem Sets.set {zs : List Nat} (S : Sets nx rd kp n zs) (hn : ∀ a t : Nat, a < n → (t : Int) ∈ nx a → t < n) {q x : Nat} (hq : q < n) (hx : x < 65536) (h1 : ∀ k, x.testBit k = true → (zs.getD q 0).testBit k = true ∨ FromNow nx rd kp zs q k) : Sets nx rd kp n (zs.set q x) := by
  have hl : q < zs.length := by rw [S.len]; exact hq
  refine ⟨by simpa using S.len, fun a ha => ?_, fun a k ha hb => ?_⟩
  · rw [getD_setN _ _ _ _ hl]
    split
    · exact hx
    · exact S.lt a ha
  · rw [getD_setN _ _ _ _ hl] at hb
    split at hb
    · rename_i e
      subst e
      rcases h1 k hb with h | h | ⟨t, h2, h3, h4⟩
      · exact S.sound _ k ha h
      · exact .read _ _ h
      · exact .flow _ t k h2 (S.sound t k (hn _ t ha h2) h3) h4
    · exact S.sound a k ha hb

theorem Back.step {zs0 zs : List Nat} {gr : Bool} {q : Nat} (b : Back nx rd kp n zs0 zs gr (q + 1)) (hn : ∀ a t : Nat, a < n → (t : Int) ∈ nx a → t < n) (hq : q < n) (x : Nat) (hx : x < 65536) (h1 : ∀ k, x.testBit k = true → (zs.getD q 0).testBit k = true ∨ FromNow nx rd kp zs q k)
    (h2 : ∀ k, (zs.getD q 0).testBit k = true → x.testBit k = true) (h3 : ∀ k, FromNow nx rd kp zs q k → x.testBit k = true) : Back nx rd kp n zs0 (zs.set q x) (gr || x != zs.getD q 0) q := by
  have hl : q < zs.length := by rw [b.sets.len]; exact hq
  have hle : zs.getD q 0 ≤ x := le_of_bits h2
  have hsum := sum_set zs q x hl
  refine ⟨b.sets.set hn hq hx h1, fun hg => ?_, fun hg => ?_⟩
  · obtain ⟨g1, g2⟩ : gr = false ∧ x = zs.getD q 0 := by
      rw [Bool.or_eq_false_iff] at hg
      exact ⟨hg.1, by simpa using hg.2⟩
    have e : zs.set q x = zs := by rw [g2]; exact set_getD_self zs q 0 hl
    obtain ⟨s1, s2⟩ := b.still g1
    rw [e]
    refine ⟨s1, fun a ha hn' => ?_⟩
    by_cases h : a = q
    · subst h
      intro k hk
      rw [← g2]
      exact h3 k hk
    · exact s2 a (by omega) hn'
  · by_cases hx' : x = zs.getD q 0
    · have hg' : gr = true := by
        rcases gr with _ | _
        · simp [hx'] at hg
        · rfl
      have := b.more hg'
      omega
    · cases gr with
      | true => have := b.more rfl; omega
      | false =>
        have := (b.still rfl).1
        rw [← this]
        omega

theorem Back.skip {zs0 zs : List Nat} {gr : Bool} {q : Nat} (b : Back nx rd kp n zs0 zs gr (q + 1)) (h1 : nx q = []) (h2 : rd q = 0) : Back nx rd kp n zs0 zs gr q := by
  refine ⟨b.sets, fun hg => ?_, b.more⟩
  obtain ⟨s1, s2⟩ := b.still hg
  refine ⟨s1, fun a ha hn' => ?_⟩
  by_cases h : a = q
  · subst h
    intro k hk
    rcases hk with hk | ⟨t, ht, _⟩
    · rw [h2] at hk; simp at hk
    · rw [h1] at ht; simp at ht
  · exact s2 a (by omega) hn'

theorem Back.start {zs : List Nat} (S : Sets nx rd kp n zs) : Back nx rd kp n zs zs false n :=
  ⟨S, fun _ => ⟨rfl, fun a h1 h2 => by omega⟩, fun h => by cases h⟩

theorem Sets.sum {zs : List Nat} (S : Sets nx rd kp n zs) : zs.sum ≤ n * 65536 := by
  have := sum_lt zs (by rw [S.len]; exact S.lt)
  rwa [S.len] at this

/-- what a place's set was made of is still so -/
def Post (nx : Nat → List Int) (rd : Nat → Nat) (kp : Nat → Nat → Bool) (n : Nat) (zs : List Nat) : Prop := ∀ a k, a < n → (zs.getD a 0).testBit k = true → FromNow nx rd kp zs a k

theorem Post.set {zs : List Nat} (P : Post nx rd kp n zs) {q x : Nat} (hl : q < zs.length) (h1 : ∀ k, x.testBit k = true → FromNow nx rd kp zs q k) (h2 : ∀ k, (zs.getD q 0).testBit k = true → x.testBit k = true) : Post nx rd kp n (zs.set q x) := by
  have up : ∀ a k, FromNow nx rd kp zs a k → FromNow nx rd kp (zs.set q x) a k := by
    intro a k h
    rcases h with h | ⟨t, h3, h4, h5⟩
    · exact .inl h
    · refine .inr ⟨t, h3, ?_, h5⟩
      rw [getD_setN _ _ _ _ hl]
      split
      · rename_i e; subst e; exact h2 k h4
      · exact h4
  intro a k ha hb
  rw [getD_setN _ _ _ _ hl] at hb
  split at hb
  · rename_i e; subst e; exact up _ k (h1 k hb)
  · exact up a k (P a k ha hb)

theorem Sets.none (n : Nat) : Sets nx rd kp n (List.replicate n 0) := by
  have : ∀ a, (List.replicate n 0).getD a 0 = 0 := fun a => by simp only [List.getD, List.getElem?_replicate]; split <;> rfl
  exact ⟨by simp, fun a _ => by rw [this]; omega, fun a k _ h => by rw [this] at h; simp at h⟩

theorem Post.none (n : Nat) : Post nx rd kp n (List.replicate n 0) := fun a k _ h => by
  have : (List.replicate n 0).getD a 0 = 0 := by simp only [List.getD, List.getElem?_replicate]; split <;> rfl
  rw [this] at h; simp at h

/-- what is joined, place by place, of the first j of those to which it goes on -/
theorem join_bit (zs : List Nat) (f : Nat → Nat) : ∀ (ts : List Nat) (x : Nat) (k : Nat), (ts.foldl (fun x t => x ||| f (zs.getD t 0)) x).testBit k = true ↔ x.testBit k = true ∨ ∃ t ∈ ts, (f (zs.getD t 0)).testBit k = true
  | [], x, k => by simp
  | t :: ts, x, k => by
    rw [List.foldl_cons, join_bit zs f ts, Nat.testBit_or]
    simp [or_assoc]
end Go.Proofs.YtljhoplcfoiiiaaDoor

namespace Go.Proofs.YtljhoplcfoiiiaaDoor
open Go.RowKit

/-- from the first to the last of the first q places that have slot k -/
def spanN (k : Nat) (ks : List Nat) : Nat → Option (Nat × Nat)
  | 0 => none
  | q + 1 => if (ks.getD q 0).testBit k = true then (match spanN k ks q with | none => some (q, q) | some (f, _) => some (f, q)) else spanN k ks q

theorem spanN_some (k : Nat) (ks : List Nat) : ∀ q, (spanN k ks q).isSome = true ↔ ∃ a, a < q ∧ (ks.getD a 0).testBit k = true
  | 0 => by simp [spanN]
  | q + 1 => by
    have ih := spanN_some k ks q
    unfold spanN
    split
    · rename_i h
      constructor
      · intro _; exact ⟨q, by omega, h⟩
      · intro _; cases spanN k ks q <;> rfl
    · rename_i h
      rw [ih]
      constructor
      · rintro ⟨a, h1, h2⟩; exact ⟨a, by omega, h2⟩
      · rintro ⟨a, h1, h2⟩
        refine ⟨a, ?_, h2⟩
        by_cases e : a = q
        · subst e; exact absurd h2 h
        · omega

theorem spanN_lt (k : Nat) (ks : List Nat) : ∀ q f t, spanN k ks q = some (f, t) → f ≤ t ∧ t < q
  | 0, f, t, h => by cases h
  | q + 1, f, t, h => by
    unfold spanN at h
    split at h
    · split at h
      · simp only [Option.some.injEq, Prod.mk.injEq] at h; omega
      · rename_i f' t' e
        have := spanN_lt k ks q f' t' e
        simp only [Option.some.injEq, Prod.mk.injEq] at h; omega
    · have := spanN_lt k ks q f t h; omega

theorem spanN_in (k : Nat) (ks : List Nat) : ∀ q a, a < q → (ks.getD a 0).testBit k = true → ∃ f t, spanN k ks q = some (f, t) ∧ f ≤ a ∧ a ≤ t
  | 0, a, h, _ => by omega
  | q + 1, a, h, hb => by
    unfold spanN
    by_cases e : a = q
    · subst e
      rw [if_pos hb]
      cases h2 : spanN k ks a with
      | none => exact ⟨a, a, rfl, Nat.le_refl _, Nat.le_refl _⟩
      | some x => exact ⟨x.1, a, rfl, by have := spanN_lt k ks a x.1 x.2 h2; omega, Nat.le_refl _⟩
    · obtain ⟨f, t, h1, h2, h3⟩ := spanN_in k ks q a (by omega) hb
      split
      · rw [h1]; exact ⟨f, q, rfl, h2, by omega⟩
      · exact ⟨f, t, h1, h2, h3⟩

/-- the ranges of the first m slots -/
def rngs (ks : List Nat) (n m : Nat) : List (Nat × Nat × Nat) := (List.range m).filterMap fun s => (spanN s ks n).map fun x => (s, x.1, x.2)

theorem rngs_zero (ks : List Nat) (n : Nat) : rngs ks n 0 = [] := rfl
theorem rngs_none (ks : List Nat) (n m : Nat) (h : spanN m ks n = none) : rngs ks n (m + 1) = rngs ks n m := by
  simp [rngs, List.range_succ, List.filterMap_append, h]
theorem rngs_some (ks : List Nat) (n m f t : Nat) (h : spanN m ks n = some (f, t)) : rngs ks n (m + 1) = rngs ks n m ++ [(m, f, t)] := by
  simp [rngs, List.range_succ, List.filterMap_append, h]
theorem rngs_len (ks : List Nat) (n : Nat) : ∀ m, (rngs ks n m).length ≤ m
  | 0 => Nat.le_refl _
  | m + 1 => by
    have ih := rngs_len ks n m
    cases h : spanN m ks n with
    | none => rw [rngs_none ks n m h]; omega
    | some x => rw [rngs_some ks n m x.1 x.2 h, List.length_append]; simp; omega

theorem rngs_same (ks ks' : List Nat) (n : Nat) : ∀ m, (∀ k, k < m → ((spanN k ks n).isSome = true ↔ (spanN k ks' n).isSome = true)) → (rngs ks n m).length = (rngs ks' n m).length
  | 0, _ => rfl
  | m + 1, h => by
    have ih := rngs_same ks ks' n m (fun k hk => h k (by omega))
    have hm := h m (by omega)
    cases h1 : spanN m ks n with
    | none =>
      cases h2 : spanN m ks' n with
      | none => rw [rngs_none ks n m h1, rngs_none ks' n m h2, ih]
      | some y => rw [h1, h2] at hm; simp at hm
    | some x =>
      cases h2 : spanN m ks' n with
      | none => rw [h1, h2] at hm; simp at hm
      | some y => rw [rngs_some ks n m x.1 x.2 h1, rngs_some ks' n m y.1 y.2 h2, List.length_append, List.length_append, ih]; rfl

theorem rngs_more (ks : List Nat) (n m : Nat) : ∀ d, (∀ k, m ≤ k → spanN k ks n = none) → rngs ks n (m + d) = rngs ks n m
  | 0, _ => rfl
  | d + 1, h => by rw [← Nat.add_assoc, rngs_none ks n (m + d) (h _ (by omega)), rngs_more ks n m d h]

theorem rngs_mem (ks : List Nat) (n m k f t : Nat) (hk : k < m) (h : spanN k ks n = some (f, t)) : (k, f, t) ∈ rngs ks n m := by
  simp only [rngs, List.mem_filterMap, List.mem_range]
  exact ⟨k, hk, by rw [h]; rfl⟩

/-- sets, and what was written one place ahead, of the first q -/
def keptN (zs : List Nat) (wf : Nat → Nat) (n q : Nat) : List Nat := (List.range n).map fun i => zs.getD i 0 ||| (if 0 < i ∧ i ≤ q then wf (i - 1) else 0)

theorem keptN_length (zs : List Nat) (wf : Nat → Nat) (n q : Nat) : (keptN zs wf n q).length = n := by simp [keptN]
theorem keptN_get (zs : List Nat) (wf : Nat → Nat) (n q i : Nat) (hi : i < n) : (keptN zs wf n q).getD i 0 = zs.getD i 0 ||| (if 0 < i ∧ i ≤ q then wf (i - 1) else 0) := by simp [keptN, List.getD, hi]
theorem keptN_none (zs : List Nat) (wf : Nat → Nat) : keptN zs wf zs.length 0 = zs := by
  apply List.ext_getElem
  · simp [keptN]
  · intro i h1 h2
    have : ¬ (0 < i ∧ i ≤ 0) := by omega
    simp only [keptN, List.getElem_map, List.getElem_range, if_neg this, Nat.or_zero]
    simp [List.getD, h2]
theorem keptN_step (zs : List Nat) (wf : Nat → Nat) (n q : Nat) : (keptN zs wf n q).set (q + 1) (zs.getD (q + 1) 0 ||| wf q) = keptN zs wf n (q + 1) := by
  apply List.ext_getElem
  · simp [keptN]
  · intro i h1 h2
    simp only [keptN, List.getElem_set, List.getElem_map, List.getElem_range]
    by_cases e : q + 1 = i
    · subst e
      rw [if_pos rfl, if_pos (by omega)]
      rfl
    · rw [if_neg e]
      by_cases h : 0 < i ∧ i ≤ q
      · rw [if_pos h, if_pos (by omega)]
      · rw [if_neg h, if_neg (by omega)]

theorem keptN_skip (zs : List Nat) (wf : Nat → Nat) (n q : Nat) (h : wf q = 0) : keptN zs wf n (q + 1) = keptN zs wf n q := by
  apply List.ext_getElem
  · simp [keptN]
  · intro i h1 h2
    simp only [keptN, List.getElem_map, List.getElem_range]
    by_cases e : i = q + 1
    · subst e
      rw [if_pos (by omega), if_neg (by omega), Nat.add_sub_cancel, h]
    · by_cases h' : 0 < i ∧ i ≤ q
      · rw [if_pos h', if_pos (by omega)]
      · rw [if_neg h', if_neg (by omega)]

theorem bit_and {a k : Nat} : a &&& 2 ^ k = if a.testBit k = true then 2 ^ k else 0 := by
  apply Nat.eq_of_testBit_eq
  intro j
  rw [Nat.testBit_and, Nat.testBit_two_pow]
  by_cases h : k = j
  · subst h
    cases h2 : a.testBit k <;> simp
  · cases h2 : a.testBit k
    · simp [h]
    · simp [h]

/-- a range's three numbers, one behind the other -/
def rngCells (rs : List (Nat × Nat × Nat)) : List Value := rs.flatMap fun x => [.int .i64 (x.1 : Int), .int .i64 (x.2.1 : Int), .int .i64 (x.2.2 : Int)]
theorem rngCells_snoc (rs : List (Nat × Nat × Nat)) (x : Nat × Nat × Nat) : rngCells (rs ++ [x]) = rngCells rs ++ [.int .i64 (x.1 : Int), .int .i64 (x.2.1 : Int), .int .i64 (x.2.2 : Int)] := by simp [rngCells]
theorem rngCells_length : ∀ rs : List (Nat × Nat × Nat), (rngCells rs).length = rs.length * 3
  | [] => rfl
  | x :: rs => by have := rngCells_length rs; simp [rngCells] at this ⊢; omega
theorem rngCells_get : ∀ (rs : List (Nat × Nat × Nat)) (i : Nat) (h : i < rs.length), (rngCells rs)[i * 3]? = some (.int .i64 (rs[i].1 : Int)) ∧ (rngCells rs)[i * 3 + 1]? = some (.int .i64 (rs[i].2.1 : Int)) ∧ (rngCells rs)[i * 3 + 2]? = some (.int .i64 (rs[i].2.2 : Int))
  | x :: rs, 0, _ => by simp [rngCells]
  | x :: rs, i + 1, h => by
    have := rngCells_get rs i (by simpa using h)
    have e : rngCells (x :: rs) = [.int .i64 (x.1 : Int), .int .i64 (x.2.1 : Int), .int .i64 (x.2.2 : Int)] ++ rngCells rs := rfl
    rw [e]
    have e2 : ∀ j, (([.int .i64 (x.1 : Int), .int .i64 (x.2.1 : Int), .int .i64 (x.2.2 : Int)] : List Value) ++ rngCells rs)[j + 3]? = (rngCells rs)[j]? := fun j => by rw [List.getElem?_append_right (by simp)]; simp
    rw [show (i + 1) * 3 = i * 3 + 3 by omega, e2, show i * 3 + 3 + 1 = i * 3 + 1 + 3 by omega, e2, show i * 3 + 3 + 2 = i * 3 + 2 + 3 by omega, e2]
    exact this

/-- a slice of ranges in memory of the call's own -/
def RngV (B : Nat) (w : World) (v : Value) (rs : List (Nat × Nat × Nat)) : Prop := w.ownsRow B 34 3 v rs.length (rngCells rs)
theorem RngV.at {B : Nat} {w : World} {v : Value} {rs : List (Nat × Nat × Nat)} (h : RngV B w v rs) (i : Nat) (hi : i < rs.length) : ∃ g cap, v = .slice (some ⟨g, 0, none⟩) rs.length cap ∧ B ≤ g ∧ g < w.heap.size ∧ w.cell? ⟨g, i * 3, none⟩ = some (.int .i64 (rs[i].1 : Int)) ∧ w.cell? ⟨g, i * 3 + 1, none⟩ = some (.int .i64 (rs[i].2.1 : Int)) ∧ w.cell? ⟨g, i * 3 + 2, none⟩ = some (.int .i64 (rs[i].2.2 : Int)) := by
  obtain ⟨_, h2⟩ := h
  rcases h2 with ⟨_, h0⟩ | ⟨g, cap, cur, rfl, hb, hh, hn, hm, hs, ht⟩
  · omega
  · obtain ⟨c0, c1, c2⟩ := rngCells_get rs i hi
    have e : ∀ j, j < rs.length * 3 → w.cell? ⟨g, j, none⟩ = (rngCells rs)[j]? := fun j hj => by
      have hj2 : j < cur.size := by omega
      rw [← ht, List.getElem?_take, if_pos hj]
      simp [World.cell?, hh]
    exact ⟨g, cap, rfl, hb, (Array.getElem?_eq_some_iff.1 hh).1, by rw [e _ (by omega)]; exact c0, by rw [e _ (by omega)]; exact c1, by rw [e _ (by omega)]; exact c2⟩
theorem RngV.form {B : Nat} {w : World} {v : Value} {rs : List (Nat × Nat × Nat)} (h : RngV B w v rs) : ∃ A cap, v = .slice A rs.length cap := by
  obtain ⟨_, h2⟩ := h
  rcases h2 with ⟨rfl, h0⟩ | ⟨g, cap, cur, rfl, _⟩
  · exact ⟨none, 0, by rw [h0]⟩
  · exact ⟨_, _, rfl⟩
end Go.Proofs.YtljhoplcfoiiiaaDoor
