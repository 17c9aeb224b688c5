/- Programs that may run, as a plain account: what Verify tells; in a right program each place that is reached has what it takes, and goes on to places of the height that it leaves; headers. -/
import Derived.Test.YtijgonjnmibifaaGreatDoorHeightM
import Derived.Test.YtijgonjnmibifaaGreatDoorRightW
namespace Go.Proofs.YtijgonjnmibifaaGreatDoor
open Go.RowKit

def formOk (f : FnM) : Bool := decide (0 ≤ f.args ∧ f.args ≤ 4 ∧ f.args ≤ f.locals ∧ f.locals ≤ 8 ∧ 1 ≤ f.code.length ∧ f.code.length ≤ 60)
def startH (n : Nat) : HS := ⟨(List.replicate n (-1)).set 0 0, (List.replicate n false).set 0 true⟩
def insAt (c : List (Int × Int)) (k : Nat) : Int × Int := c.getD k (0, 0)

/-- what is told of function f: a place and a code -/
inductive FuncIs (p : List FnM) (f : Nat) : Int → Int → Prop
  | form : formOk (fnAt p f) = false → FuncIs p f 0 1
  | ins (k : Nat) : formOk (fnAt p f) = true → k < (fnAt p f).code.length → rightM p f (insAt (fnAt p f).code k).1 (insAt (fnAt p f).code k).2 = false →
      (∀ j, j < k → rightM p f (insAt (fnAt p f).code j).1 (insAt (fnAt p f).code j).2 = true) → FuncIs p f k 1
  | fault (at' : Nat) (c : Int) : formOk (fnAt p f) = true → (∀ j, j < (fnAt p f).code.length → rightM p f (insAt (fnAt p f).code j).1 (insAt (fnAt p f).code j).2 = true) →
      HRun p (fnAt p f).code (startH (fnAt p f).code.length) (.inr (at', c)) → FuncIs p f at' c
  | ok (h : List Int) : formOk (fnAt p f) = true → (∀ j, j < (fnAt p f).code.length → rightM p f (insAt (fnAt p f).code j).1 (insAt (fnAt p f).code j).2 = true) →
      HRun p (fnAt p f).code (startH (fnAt p f).code.length) (.inl h) → FuncIs p f 0 0

theorem FuncIs.unique {p : List FnM} {f : Nat} {a c a' c' : Int} (h : FuncIs p f a c) (k : FuncIs p f a' c') : a = a' ∧ c = c' := by
  cases h with
  | form h1 =>
    cases k with
    | form _ => exact ⟨rfl, rfl⟩
    | ins _ h2 => rw [h1] at h2; cases h2
    | fault _ _ h2 => rw [h1] at h2; cases h2
    | ok _ h2 => rw [h1] at h2; cases h2
  | ins x h1 hx hw hb =>
    cases k with
    | form h2 => rw [h1] at h2; cases h2
    | ins y _ hy hw' hb' =>
      have : x = y := by
        rcases Nat.lt_trichotomy x y with hl | he | hl
        · have := hb' x hl; rw [hw] at this; cases this
        · exact he
        · have := hb y hl; rw [hw'] at this; cases this
      subst this
      exact ⟨rfl, rfl⟩
    | fault _ _ _ ha _ => have := ha x hx; rw [hw] at this; cases this
    | ok _ _ ha _ => have := ha x hx; rw [hw] at this; cases this
  | fault x y h1 ha hr =>
    cases k with
    | form h2 => rw [h1] at h2; cases h2
    | ins z _ hz hw _ => have := ha z hz; rw [hw] at this; cases this
    | fault _ _ _ _ hr' =>
      have := hr.unique hr'
      simp only [Sum.inr.injEq, Prod.mk.injEq] at this
      obtain ⟨rfl, rfl⟩ := this
      exact ⟨rfl, rfl⟩
    | ok _ _ _ hr' => have := hr.unique hr'; cases this
  | ok h h1 ha hr =>
    cases k with
    | form h2 => rw [h1] at h2; cases h2
    | ins z _ hz hw _ => have := ha z hz; rw [hw] at this; cases this
    | fault _ _ _ _ hr' => have := hr.unique hr'; cases this
    | ok _ _ _ _ => exact ⟨rfl, rfl⟩

/-- what is told of a program: a function, a place and a code -/
inductive VerifyIs (p : List FnM) : Int → Int → Int → Prop
  | form : ¬ (1 ≤ p.length ∧ p.length ≤ 6) → VerifyIs p 0 0 1
  | fault (f : Nat) (a c : Int) : 1 ≤ p.length → p.length ≤ 6 → f < p.length → (∀ g, g < f → FuncIs p g 0 0) → FuncIs p f a c → c ≠ 0 → VerifyIs p f a c
  | ok : 1 ≤ p.length → p.length ≤ 6 → (∀ g, g < p.length → FuncIs p g 0 0) → VerifyIs p 0 0 0

theorem VerifyIs.unique {p : List FnM} {f a c f' a' c' : Int} (h : VerifyIs p f a c) (k : VerifyIs p f' a' c') : f = f' ∧ a = a' ∧ c = c' := by
  cases h with
  | form h1 =>
    cases k with
    | form _ => exact ⟨rfl, rfl, rfl⟩
    | fault _ _ _ h2 h3 => exact absurd ⟨h2, h3⟩ h1
    | ok h2 h3 => exact absurd ⟨h2, h3⟩ h1
  | fault x _ _ h1 h2 hx hb hf hc =>
    cases k with
    | form h3 => exact absurd ⟨h1, h2⟩ h3
    | fault y _ _ _ _ hy hb' hf' hc' =>
      have : x = y := by
        rcases Nat.lt_trichotomy x y with hl | he | hl
        · exact absurd (hf.unique (hb' x hl)).2 hc
        · exact he
        · exact absurd (hf'.unique (hb y hl)).2 hc'
      subst this
      obtain ⟨rfl, rfl⟩ := hf.unique hf'
      exact ⟨rfl, rfl, rfl⟩
    | ok _ _ ha => exact absurd (hf.unique (ha x hx)).2 hc
  | ok h1 h2 ha =>
    cases k with
    | form h3 => exact absurd ⟨h1, h2⟩ h3
    | fault y _ _ _ _ hy _ hf' hc' => exact absurd (hf'.unique (ha y hy)).2 hc'
    | ok _ _ _ => exact ⟨rfl, rfl, rfl⟩

theorem goOn_code {next : Int} : ∀ (ts : List Int) (s : HS) (c : Int), goOn next ts s = .inr c → c = 6 ∨ c = 5
  | [], s, c, h => by simp [goOn] at h
  | t :: ts, s, c, h => by
    rw [goOn] at h
    split at h
    · cases h; exact .inl rfl
    · split at h
      · cases h; exact .inr rfl
      · split at h
        · exact goOn_code ts _ c h
        · exact goOn_code ts _ c h

theorem turn_code {p : List FnM} {c : List (Int × Int)} {a : Nat} {s : HS} {x : Int} (h : turn p c a s = .inr x) : x = 6 ∨ x = 5 := by
  unfold turn at h
  split at h
  · cases h; exact .inr rfl
  · exact goOn_code _ _ _ h

theorem HRun.code {p : List FnM} {c : List (Int × Int)} {s : HS} {r : List Int ⊕ (Nat × Int)} (h : HRun p c s r) (a : Nat) (x : Int) (hr : r = .inr (a, x)) : x = 6 ∨ x = 5 := by
  induction h with
  | done _ _ => cases hr
  | fault _ _ _ _ ht => cases hr; exact turn_code ht
  | more _ _ _ _ _ _ _ ih => exact ih hr

/-- of a function of which all is well -/
theorem FuncIs.well {p : List FnM} {f : Nat} {a c : Int} (h : FuncIs p f a c) (hc : c = 0) : formOk (fnAt p f) = true ∧ (∀ j, j < (fnAt p f).code.length → rightM p f (insAt (fnAt p f).code j).1 (insAt (fnAt p f).code j).2 = true) ∧
    ∃ hs, HRun p (fnAt p f).code (startH (fnAt p f).code.length) (.inl hs) := by
  cases h with
  | form _ => cases hc
  | ins _ _ _ _ _ => cases hc
  | fault x y h1 h2 h3 => rcases h3.code x _ rfl with h | h <;> omega
  | ok hs h1 h2 h3 => exact ⟨h1, h2, hs, h3⟩

theorem VerifyIs.all {p : List FnM} {f a c : Int} (h : VerifyIs p f a c) (hc : c = 0) : 1 ≤ p.length ∧ p.length ≤ 6 ∧ ∀ g, g < p.length → FuncIs p g 0 0 := by
  cases h with
  | form _ => cases hc
  | fault _ _ _ _ _ _ _ _ hne => exact absurd hc hne
  | ok h1 h2 h3 => exact ⟨h1, h2, h3⟩

def RightP (p : List FnM) : Prop := VerifyIs p 0 0 0

theorem RightP.all {p : List FnM} (h : RightP p) : 1 ≤ p.length ∧ p.length ≤ 6 ∧ ∀ g, g < p.length → FuncIs p g 0 0 := VerifyIs.all h rfl

/-! what holds of the heights of a right program -/

/-- of each place that had a height it is what it was; another one has been given the height, and waits -/
theorem goOn_spec {n : Nat} {next : Int} (hn : 0 ≤ next) : ∀ (ts : List Int) (s s' : HS), (∀ t ∈ ts, 0 ≤ t) → s.h.length = n → s.wt.length = n → goOn next ts s = .inl s' →
    s'.h.length = n ∧ s'.wt.length = n ∧ (∀ t ∈ ts, t < n ∧ s'.h.getD t.toNat 0 = next) ∧
      ∀ j, j < n → (s'.h.getD j 0 = s.h.getD j 0 ∧ s'.wt.getD j false = s.wt.getD j false) ∨ (s.h.getD j 0 < 0 ∧ s'.h.getD j 0 = next ∧ s'.wt.getD j false = true)
  | [], s, s', _, lh, lw, h => by
    simp only [goOn, Sum.inl.injEq] at h
    subst h
    exact ⟨lh, lw, fun t ht => by simp at ht, fun j _ => .inl ⟨rfl, rfl⟩⟩
  | t :: ts, s, s', hp, lh, lw, h => by
    have ht0 := hp t (by simp)
    rw [goOn] at h
    split at h
    · cases h
    · rename_i hlt
      have hj : t.toNat < s.h.length := by omega
      have hj' : t.toNat < s.wt.length := by omega
      split at h
      · cases h
      · rename_i hne
        split at h
        · rename_i hneg
          obtain ⟨h1, h2, h3, h4⟩ := goOn_spec hn ts _ s' (fun t' ht' => hp t' (by simp [ht'])) (by simpa using lh) (by simpa using lw) h
          simp only [getD_set _ _ _ _ _ hj, getD_set _ _ _ _ _ hj'] at h4
          have h5 := h4 t.toNat (by omega)
          simp only [if_true] at h5
          refine ⟨h1, h2, fun t' ht' => ?_, fun j hjn => ?_⟩
          · rcases List.mem_cons.1 ht' with rfl | ht'
            · refine ⟨by omega, ?_⟩
              rcases h5 with h5 | h5
              · exact h5.1
              · exact h5.2.1
            · exact h3 t' ht'
          · have h6 := h4 j hjn
            by_cases he : t.toNat = j
            · subst he
              simp only [if_true] at h6
              refine .inr ⟨hneg, ?_⟩
              rcases h6 with h6 | h6
              · exact h6
              · exact h6.2
            · simpa only [if_neg he] using h6
        · rename_i hnn
          obtain ⟨h1, h2, h3, h4⟩ := goOn_spec hn ts s s' (fun t' ht' => hp t' (by simp [ht'])) lh lw h
          refine ⟨h1, h2, fun t' ht' => ?_, h4⟩
          rcases List.mem_cons.1 ht' with rfl | ht'
          · refine ⟨by omega, ?_⟩
            have hx : s.h.getD t'.toNat 0 = next := by
              have := not_and.1 hne (by omega)
              exact Classical.not_not.1 this
            rcases h4 t'.toNat (by omega) with h5 | h5
            · rw [h5.1, hx]
            · exact h5.2.1
          · exact h3 t' ht'

/-- all functions' Args are 0 to 4 -/
def ArgsOk (p : List FnM) : Prop := ∀ f ∈ p, 0 ≤ f.args ∧ f.args ≤ 4

theorem takesM_range {p : List FnM} (hp : ArgsOk p) (op a : Int) : 0 ≤ takesM p op a ∧ takesM p op a ≤ 4 := by
  unfold takesM
  split
  · split
    · rename_i h
      exact hp _ (fnAt_mem h)
    · omega
  · have := takes_row op
    omega

theorem leaves_plain {p : List FnM} (hp : ArgsOk p) {hh : Int} {i : Int × Int} (h0 : 0 ≤ hh) (h8 : hh ≤ 8) (ht : takesM p i.1 i.2 ≤ hh) : leaves p hh i = hh - takesM p i.1 i.2 + putsM i.1 ∧ 0 ≤ leaves p hh i := by
  have h1 := takesM_range hp i.1 i.2
  have h2 := putsM_range i.1
  unfold leaves wrap64
  omega

/-- a place that has been gone on from -/
def Good (p : List FnM) (c : List (Int × Int)) (h : List Int) (j : Nat) : Prop :=
  takesM p (insAt c j).1 (insAt c j).2 ≤ h.getD j 0 ∧ leaves p (h.getD j 0) (insAt c j) ≤ 8 ∧ ∀ t ∈ goesTo j (insAt c j), t < c.length ∧ h.getD t.toNat 0 = leaves p (h.getD j 0) (insAt c j)

structure HGood (p : List FnM) (c : List (Int × Int)) (s : HS) : Prop where
  lh : s.h.length = c.length
  lw : s.wt.length = c.length
  first : s.h.getD 0 0 = 0
  range : ∀ j, j < c.length → s.h.getD j 0 = -1 ∨ (0 ≤ s.h.getD j 0 ∧ s.h.getD j 0 ≤ 8)
  wait : ∀ j, j < c.length → s.wt.getD j false = true → 0 ≤ s.h.getD j 0
  good : ∀ j, j < c.length → 0 ≤ s.h.getD j 0 → s.wt.getD j false = false → Good p c s.h j

theorem HGood.turn {p : List FnM} (hp : ArgsOk p) {c : List (Int × Int)} {a : Nat} {s s' : HS} (hto : ∀ j, j < c.length → ∀ t ∈ goesTo j (insAt c j), 0 ≤ t) (g : HGood p c s) (hl : IsLeast s.wt a) (h : turn p c a s = .inl s') : HGood p c s' := by
  have ha : a < c.length := by rw [← g.lw]; exact hl.1
  have h0 : 0 ≤ s.h.getD a 0 := g.wait a ha hl.2.1
  have h8 : s.h.getD a 0 ≤ 8 := by rcases g.range a ha with h | h <;> omega
  unfold Go.Proofs.YtijgonjnmibifaaGreatDoor.turn at h
  split at h
  · cases h
  · rename_i hc
    obtain ⟨hc1, hc2⟩ := not_or.1 hc
    have hle := leaves_plain hp h0 h8 (i := insAt c a) (by unfold insAt; omega)
    have hc2' : leaves p (s.h.getD a 0) (insAt c a) ≤ 8 := by unfold insAt; omega
    obtain ⟨k1, k2, k3, k4⟩ := goOn_spec (n := c.length) (next := leaves p (s.h.getD a 0) (insAt c a)) hle.2 (goesTo a (insAt c a)) ⟨s.h, s.wt.set a false⟩ s' (hto a ha) g.lh (by simpa using g.lw) h
    have hwa : a < s.wt.length := hl.1
    simp only [getD_set _ _ _ _ _ hwa] at k4
    have keep : ∀ j, j < c.length → 0 ≤ s.h.getD j 0 → s'.h.getD j 0 = s.h.getD j 0 := fun j hj hn => by
      rcases k4 j hj with h1 | h1
      · exact h1.1
      · omega
    refine ⟨k1, k2, ?_, fun j hj => ?_, fun j hj hw => ?_, fun j hj hn hw => ?_⟩
    · rw [keep 0 (by omega) (by rw [g.first]; omega)]
      exact g.first
    · rcases k4 j hj with h1 | h1
      · rw [h1.1]; exact g.range j hj
      · right; rw [h1.2.1]; exact ⟨hle.2, hc2'⟩
    · rcases k4 j hj with h1 | h1
      · rw [h1.1]
        rw [h1.2] at hw
        split at hw
        · cases hw
        · exact g.wait j hj hw
      · rw [h1.2.1]; exact hle.2
    · rcases k4 j hj with h1 | h1
      · have hn' : 0 ≤ s.h.getD j 0 := by rw [← h1.1]; exact hn
        have e1 : s'.h.getD j 0 = s.h.getD j 0 := h1.1
        by_cases haj : a = j
        · subst haj
          refine ⟨by rw [e1]; unfold insAt; omega, by rw [e1]; exact hc2', fun t ht => ?_⟩
          rw [e1]
          exact k3 t ht
        · have hw' : s.wt.getD j false = false := by
            have := h1.2
            rw [if_neg haj] at this
            rw [← this]; exact hw
          obtain ⟨g1, g2, g3⟩ := g.good j hj hn' hw'
          refine ⟨by rw [e1]; exact g1, by rw [e1]; exact g2, fun t ht => ?_⟩
          obtain ⟨q1, q2⟩ := g3 t ht
          have ht0 := hto j hj t ht
          have h8j : s.h.getD j 0 ≤ 8 := by rcases g.range j hj with h | h <;> omega
          have hlj := leaves_plain hp hn' h8j g1
          refine ⟨q1, ?_⟩
          rw [e1, keep t.toNat (by omega) (by rw [q2]; exact hlj.2)]
          exact q2
      · rw [h1.2.2] at hw; cases hw

theorem HRun.good {p : List FnM} (hp : ArgsOk p) {c : List (Int × Int)} {s : HS} {r : List Int ⊕ (Nat × Int)} (hto : ∀ j, j < c.length → ∀ t ∈ goesTo j (insAt c j), 0 ≤ t) (h : HRun p c s r) (g : HGood p c s) (hs : List Int) (hr : r = .inl hs) :
    hs.length = c.length ∧ hs.getD 0 0 = 0 ∧ (∀ j, j < c.length → hs.getD j 0 = -1 ∨ (0 ≤ hs.getD j 0 ∧ hs.getD j 0 ≤ 8)) ∧ ∀ j, j < c.length → 0 ≤ hs.getD j 0 → Good p c hs j := by
  induction h with
  | done s hw => cases hr; exact ⟨g.lh, g.first, g.range, fun j hj hn => g.good j hj hn (hw j)⟩
  | fault _ _ _ _ _ => cases hr
  | more s s' a r hl ht _ ih => exact ih (g.turn hp hto hl ht) hr

theorem start_good {p : List FnM} {c : List (Int × Int)} (h1 : 1 ≤ c.length) : HGood p c (startH c.length) := by
  have hr : ∀ j, j < c.length → (startH c.length).h.getD j 0 = if 0 = j then 0 else -1 := fun j hj => by
    unfold startH
    rw [getD_set _ _ _ _ _ (by rw [List.length_replicate]; omega)]
    by_cases he : 0 = j
    · simp [he]
    · simp [he, List.getD, hj]
  have hw : ∀ j, j < c.length → (startH c.length).wt.getD j false = if 0 = j then true else false := fun j hj => by
    unfold startH
    rw [getD_set _ _ _ _ _ (by rw [List.length_replicate]; omega)]
    by_cases he : 0 = j
    · simp [he]
    · simp [he, List.getD, hj]
  refine ⟨by simp [startH], by simp [startH], by rw [hr 0 h1]; rfl, fun j hj => ?_, fun j hj hwj => ?_, fun j hj hn hwj => ?_⟩
  · rw [hr j hj]; split <;> omega
  · rw [hw j hj] at hwj
    rw [hr j hj]
    split at hwj
    · rename_i he; rw [if_pos he]; omega
    · cases hwj
  · rw [hw j hj] at hwj
    rw [hr j hj] at hn
    split at hwj
    · cases hwj
    · rename_i he; rw [if_neg he] at hn; omega

/-- where an instruction that stands right goes on is no place below 0 -/
theorem goesTo_nat {p : List FnM} {f : Nat} {c : List (Int × Int)} (ha : ∀ j, j < c.length → rightM p f (insAt c j).1 (insAt c j).2 = true) : ∀ j, j < c.length → ∀ t ∈ goesTo j (insAt c j), 0 ≤ t := by
  intro j hj t ht
  have h := ha j hj
  unfold goesTo at ht
  rcases List.mem_append.1 ht with h1 | h1
  · split at h1
    · simp at h1
    · simp at h1; omega
  · split at h1
    · rename_i ho
      simp at h1
      subst h1
      unfold rightM at h
      rw [Bool.and_eq_true] at h
      have h2 := h.2
      rw [if_neg (by omega), if_neg (by omega), if_pos ho] at h2
      simp [inL] at h2
      omega
    · simp at h1

/-- THE HEIGHTS OF A FUNCTION OF A RIGHT PROGRAM -/
theorem RightP.heights {p : List FnM} (h : RightP p) (f : Nat) (hf : f < p.length) : ∃ hs, HRun p (fnAt p f).code (startH (fnAt p f).code.length) (.inl hs) ∧ hs.length = (fnAt p f).code.length ∧ 1 ≤ hs.length ∧ hs.getD 0 0 = 0 ∧
    (∀ j, j < hs.length → hs.getD j 0 = -1 ∨ (0 ≤ hs.getD j 0 ∧ hs.getD j 0 ≤ 8)) ∧ ∀ j, j < hs.length → 0 ≤ hs.getD j 0 → Good p (fnAt p f).code hs j := by
  obtain ⟨_, _, hall⟩ := h.all
  obtain ⟨w1, w2, hs, w3⟩ := (hall f hf).well rfl
  have hp : ArgsOk p := by
    intro g hg
    obtain ⟨k, hk, rfl⟩ := List.getElem_of_mem hg
    have := ((hall k hk).well rfl).1
    rw [fnAt_nat p k hk] at this
    simp [formOk] at this
    omega
  have hl : 1 ≤ (fnAt p f).code.length := by simp [formOk] at w1; omega
  obtain ⟨q1, q2, q3, q4⟩ := w3.good hp (goesTo_nat w2) (start_good hl) hs rfl
  exact ⟨hs, w3, q1, by omega, q2, by rw [q1]; exact q3, by rw [q1]; exact q4⟩

/-- the headers -/
def isHead (c : List (Int × Int)) (hs : List Int) (t : Nat) : Bool :=
  (List.range hs.length).any fun i => decide (t ≤ i) && decide (0 ≤ hs.getD i 0) && (decide ((insAt c i).1 = 30) || decide ((insAt c i).1 = 31)) && decide ((insAt c i).2 = (t : Int))
def heads (c : List (Int × Int)) (hs : List Int) : List Nat := (List.range hs.length).filter (isHead c hs)

theorem heads_rise (c : List (Int × Int)) (hs : List Int) : (heads c hs).Pairwise (· < ·) := List.Pairwise.filter _ List.pairwise_lt_range

theorem leaves_nonneg {p : List FnM} (hp : ArgsOk p) {hh : Int} {i : Int × Int} (h0 : 0 ≤ hh) (h8 : hh ≤ 8) (ht : takesM p i.1 i.2 ≤ hh) : 0 ≤ leaves p hh i := (leaves_plain hp h0 h8 ht).2

theorem RightP.args {p : List FnM} (h : RightP p) : ArgsOk p := by
  obtain ⟨_, _, hall⟩ := h.all
  intro g hg
  obtain ⟨k, hk, rfl⟩ := List.getElem_of_mem hg
  have := ((hall k hk).well rfl).1
  rw [fnAt_nat p k hk] at this
  simp [formOk] at this
  omega

/-- headers are places that are reached -/
theorem heads_reached {p : List FnM} (hp : ArgsOk p) {c : List (Int × Int)} {hs : List Int} (hr : ∀ j, j < hs.length → hs.getD j 0 = -1 ∨ (0 ≤ hs.getD j 0 ∧ hs.getD j 0 ≤ 8))
    (hg : ∀ j, j < hs.length → 0 ≤ hs.getD j 0 → Good p c hs j) (t : Nat) (ht : t ∈ heads c hs) : t < hs.length ∧ 0 ≤ hs.getD t 0 := by
  obtain ⟨h1, h2⟩ := List.mem_filter.1 ht
  have h1' := List.mem_range.1 h1
  refine ⟨h1', ?_⟩
  unfold isHead at h2
  obtain ⟨i, hi, h3⟩ := List.any_eq_true.1 h2
  have hi' := List.mem_range.1 hi
  simp only [Bool.and_eq_true, Bool.or_eq_true, decide_eq_true_eq] at h3
  obtain ⟨⟨⟨_, hn⟩, ho⟩, hA⟩ := h3
  obtain ⟨g1, _, g3⟩ := hg i hi' hn
  have hm : ((t : Nat) : Int) ∈ goesTo i (insAt c i) := by
    unfold goesTo
    rw [if_pos (show (insAt c i).1 = 30 ∨ (insAt c i).1 = 31 from ho)]
    simp [hA]
  have h5 := (g3 _ hm).2
  rw [Int.toNat_natCast] at h5
  rw [h5]
  have h8 : hs.getD i 0 ≤ 8 := by rcases hr i hi' with h | h <;> omega
  exact leaves_nonneg hp hn h8 g1
end Go.Proofs.YtijgonjnmibifaaGreatDoor
