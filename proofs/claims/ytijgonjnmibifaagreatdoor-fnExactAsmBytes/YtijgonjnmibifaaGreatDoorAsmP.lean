/- Code of registers as a plain account: which Vals, moves, instructions and maps may be; what the spec asks of an instruction is the same, in a right program. -/
import Derived.Test.YtijgonjnmibifaaGreatDoorHeiI
import Derived.Test.YtijgonjnmibifaaGreatDoorPutsW
import Derived.Test.YtijgonjnmibifaaGreatDoorAm
namespace Go.Proofs.YtijgonjnmibifaaGreatDoor
open Go.RowKit

def locOk (n : Int) : Bool := inL n 22
def valOk (v : Int × Int) : Bool := if v.1 = 0 then decide (v.2 = 0) else if v.1 = 1 then locOk v.2 else decide (v.1 = 2)
def numOk (v : Int × Int) : Bool := if v.1 = 1 then locOk v.2 else decide (v.1 = 2)
def movOk (m : MvM) : Bool := locOk m.to && numOk (m.kind, m.n)
def fieldsOk (p : List FnM) (f : Int) (i : AiM) : Bool :=
  if i.op = 0 then decide (i.to = -1 ∧ i.l.length = 0 ∧ i.t = 0)
  else if i.op = 1 then locOk i.to && decide (i.l.length = 1 ∧ i.t = 0)
  else if i.op = 3 then decide (i.to = -1 ∧ i.l.length = 1 ∧ (i.t = 1 ∨ i.t = 2))
  else decide (10 ≤ i.op) && (rightM p f i.op i.t && decide ((i.l.length : Int) = takesM p i.op i.t) && (decide (i.to = -1) || (decide (0 < putsM i.op) && locOk i.to)))
def aiOk (p : List FnM) (f : Int) (i : AiM) : Bool := decide (i.pre.length ≤ 16) && i.pre.all movOk && i.l.all numOk && fieldsOk p f i
def bareNop : AiM := ⟨[], 0, -1, [], 0⟩
def mapOk (l : List (Int × Int)) (slots : Int) : Bool := decide ((l.length : Int) = slots) && l.all valOk

/-- a place of the height h (less than 0: not reached) -/
def placeOk (p : List FnM) (f : Int) (h : Int) (i : AiM) (m : List (Int × Int)) : Bool :=
  if h < 0 then decide (i = bareNop) && decide (m.length = 0) else aiOk p f i && mapOk m ((fnAt p f).locals + h)

/-- is it code of registers of its function? -/
def AsmIs (p : List FnM) (a : AsM) : Prop :=
  (RightP p ∧ inL a.func p.length = true) ∧ a.code.length = (fnAt p a.func).code.length ∧ a.maps.length = (fnAt p a.func).code.length ∧
    ∃ hs, HRun p (fnAt p a.func).code (startH (fnAt p a.func).code.length) (.inl hs) ∧ ∀ k, k < a.code.length → placeOk p a.func (hs.getD k 0) (a.code.getD k default) (a.maps.getD k []) = true

/-! what the spec asks of an instruction -/

def fieldsS (p : List FnM) (f : Int) (i : AiM) : Bool :=
  if i.op = 0 then decide (i.to = -1 ∧ i.l.length = 0 ∧ i.t = 0)
  else if i.op = 1 then locOk i.to && decide (i.l.length = 1 ∧ i.t = 0)
  else if i.op = 3 then decide (i.to = -1 ∧ i.l.length = 1 ∧ (i.t = 1 ∨ i.t = 2))
  else if isBin i.op = true ∨ isUn i.op = true ∨ i.op = 34 ∨ i.op = 35 ∨ i.op = 37 then (decide (i.to = -1) || locOk i.to) && decide ((i.l.length : Int) = takesM p i.op 0 ∧ i.t = 0)
  else if i.op = 36 ∨ i.op = 38 ∨ i.op = 33 then decide (i.to = -1 ∧ (i.l.length : Int) = takesM p i.op 0 ∧ i.t = 0)
  else if i.op = 30 ∨ i.op = 31 then decide (i.to = -1 ∧ (i.l.length : Int) = takesM p i.op 0) && inL i.t (fnAt p f).code.length
  else decide (i.op = 32) && (decide (i.to = -1) || locOk i.to) && (inL i.t p.length && decide ((i.l.length : Int) = (fnAt p i.t).args))
def aiS (p : List FnM) (f : Int) (i : AiM) : Bool := decide (i.pre.length ≤ 16 ∧ i.l.length ≤ 16) && i.pre.all movOk && i.l.all numOk && fieldsS p f i

theorem row_none {op : Int} (h : ¬ (0 ≤ op ∧ op < 39)) : opRow op = ([], 0, 0, 0) := by unfold opRow; rw [if_neg h]

/-- of the ops from 10 on: the names, what they take and put -/
theorem op_cases (op : Int) (h10 : 10 ≤ op) (hnb : isBin op = false) (hnu : isUn op = false) (h : ¬ (op = 30 ∨ op = 31 ∨ op = 32 ∨ op = 33 ∨ op = 34 ∨ op = 35 ∨ op = 36 ∨ op = 37 ∨ op = 38)) : ¬ (0 ≤ op ∧ op < 39) := by
  simp [isBin, isUn] at hnb hnu
  omega

theorem row_at (P : List UInt8 × Int × Int × Int → Prop) {op : Int} (k : Nat) (e : op = k) (hk : k < 39) (h : P (opN k)) : P (opRow op) := by
  subst e; unfold opRow; rw [if_pos (by omega), Int.toNat_natCast]; exact h

theorem name_in {op : Int} (h : 10 ≤ op) (h' : op < 39) : (opRow op).1.isEmpty = false := by
  obtain ⟨k, rfl⟩ := Int.eq_ofNat_of_zero_le (show (0 : Int) ≤ op by omega)
  have : ∀ k : Fin 39, 10 ≤ k.1 → (opRow (k.1 : Int)).1.isEmpty = false := by decide
  exact this ⟨k, by omega⟩ (by show 10 ≤ k; omega)

theorem puts_pos {op : Int} (h : 10 ≤ op) (h' : op < 39) : 0 < putsM op ↔ ¬ (op = 30 ∨ op = 31 ∨ op = 33 ∨ op = 36 ∨ op = 38) := by
  obtain ⟨k, rfl⟩ := Int.eq_ofNat_of_zero_le (show (0 : Int) ≤ op by omega)
  have : ∀ k : Fin 39, 10 ≤ k.1 → (0 < (opRow (k.1 : Int)).2.2.2 ↔ ¬ ((k.1 : Int) = 30 ∨ (k.1 : Int) = 31 ∨ (k.1 : Int) = 33 ∨ (k.1 : Int) = 36 ∨ (k.1 : Int) = 38)) := by decide
  exact this ⟨k, by omega⟩ (by show 10 ≤ k; omega)

theorem bin_un {op : Int} : (isBin op = true ∨ isUn op = true) ↔ (10 ≤ op ∧ op ≤ 29) := by
  simp [isBin, isUn]; omega

theorem takesM_any {p : List FnM} {op : Int} (h : op ≠ 32) (a b : Int) : takesM p op a = takesM p op b := by unfold takesM; rw [if_neg h, if_neg h]

theorem fields_same {p : List FnM} {f : Int} (hf : inL f p.length = true) (i : AiM) : fieldsS p f i = fieldsOk p f i := by
  unfold fieldsS fieldsOk
  by_cases h0 : i.op = 0
  · rw [if_pos h0, if_pos h0]
  rw [if_neg h0, if_neg h0]
  by_cases h1 : i.op = 1
  · rw [if_pos h1, if_pos h1]
  rw [if_neg h1, if_neg h1]
  by_cases h3 : i.op = 3
  · rw [if_pos h3, if_pos h3]
  rw [if_neg h3, if_neg h3]
  by_cases h10 : 10 ≤ i.op
  case neg =>
    have hb : ¬ (isBin i.op = true ∨ isUn i.op = true ∨ i.op = 34 ∨ i.op = 35 ∨ i.op = 37) := by
      rintro (h | h | h | h | h)
      · exact h10 (bin_un.1 (.inl h)).1
      · exact h10 (bin_un.1 (.inr h)).1
      all_goals omega
    rw [if_neg hb, if_neg (by omega), if_neg (by omega)]
    simp [h10, show i.op ≠ 32 by omega]
  by_cases h39 : i.op < 39
  case neg =>
    have hb : ¬ (isBin i.op = true ∨ isUn i.op = true ∨ i.op = 34 ∨ i.op = 35 ∨ i.op = 37) := by
      rintro (h | h | h | h | h)
      · have := (bin_un.1 (.inl h)).2; omega
      · have := (bin_un.1 (.inr h)).2; omega
      all_goals omega
    rw [if_neg hb, if_neg (by omega), if_neg (by omega)]
    have hr : rightM p f i.op i.t = false := by
      unfold rightM
      rw [if_neg h1, if_neg (by omega), if_neg (by omega), if_neg (by omega), row_none (by omega)]
      simp
    simp [hr, show i.op ≠ 32 by omega]
  have hn := name_in h10 h39
  have hp := puts_pos h10 h39
  by_cases hc : i.op = 32
  · rw [if_neg (by rw [hc]; decide), if_neg (by omega), if_neg (by omega)]
    have hr : rightM p f i.op i.t = inL i.t p.length := by
      unfold rightM
      rw [if_neg h1, if_neg (by omega), if_neg (by omega), if_pos hc, hf, Bool.true_and]
    have hp' : 0 < putsM i.op := hp.2 (by omega)
    rw [hr]
    simp only [hc, decide_true, Bool.true_and]
    rw [hc] at hp'
    by_cases hin : inL i.t p.length = true
    · have ht : takesM p 32 i.t = (fnAt p i.t).args := by
        unfold takesM
        rw [if_pos rfl, if_pos (by simpa [inL] using hin)]
      rw [hin, ht]
      simp [hp', Bool.and_comm]
    · rw [Bool.not_eq_true] at hin
      rw [hin]
      simp
  · by_cases hj : i.op = 30 ∨ i.op = 31
    · have hb : ¬ (isBin i.op = true ∨ isUn i.op = true ∨ i.op = 34 ∨ i.op = 35 ∨ i.op = 37) := by
        rintro (h | h | h | h | h)
        · have := (bin_un.1 (.inl h)).2; omega
        · have := (bin_un.1 (.inr h)).2; omega
        all_goals omega
      rw [if_neg hb, if_neg (by omega), if_pos hj]
      have hr : rightM p f i.op i.t = inL i.t (fnAt p f).code.length := by
        unfold rightM
        rw [if_neg h1, if_neg (by omega), if_pos hj, hf, Bool.true_and]
      have hp' : ¬ 0 < putsM i.op := fun h => (hp.1 h) (by omega)
      rw [hr, takesM_any hc 0 i.t]
      simp [hp', h10, Bool.and_comm, Bool.and_left_comm]
    · have hr : rightM p f i.op i.t = decide (i.t = 0) := by
        unfold rightM
        rw [if_neg h1, if_neg (by omega), if_neg hj, if_neg hc, hf, hn]
        simp
      rw [hr, takesM_any hc 0 i.t]
      by_cases hb : isBin i.op = true ∨ isUn i.op = true ∨ i.op = 34 ∨ i.op = 35 ∨ i.op = 37
      · have hp' : 0 < putsM i.op := hp.2 (by
          rcases hb with h | h | h | h | h
          · have := (bin_un.1 (.inl h)).2; omega
          · have := (bin_un.1 (.inr h)).2; omega
          all_goals omega)
        rw [if_pos hb]
        simp [hp', h10, Bool.and_comm, Bool.and_left_comm, Bool.decide_and]
      · have ho : i.op = 36 ∨ i.op = 38 ∨ i.op = 33 := by
          have : ¬ (10 ≤ i.op ∧ i.op ≤ 29) := fun h => hb (by rcases bin_un.2 h with h | h; exact .inl h; exact .inr (.inl h))
          omega
        have hp' : ¬ 0 < putsM i.op := fun h => (hp.1 h) (by omega)
        rw [if_neg hb, if_pos ho]
        simp [hp', h10, Bool.and_comm, Bool.and_left_comm, Bool.decide_and]

theorem fieldsOk_few {p : List FnM} (hp : ArgsOk p) {f : Int} {i : AiM} (h : fieldsOk p f i = true) : i.l.length ≤ 16 := by
  unfold fieldsOk at h
  split at h
  · simp only [decide_eq_true_eq] at h; omega
  · split at h
    · simp only [Bool.and_eq_true, decide_eq_true_eq] at h; omega
    · split at h
      · simp only [decide_eq_true_eq] at h; omega
      · simp only [Bool.and_eq_true, decide_eq_true_eq] at h
        have h2 := h.2.1.2
        have := takesM_range hp i.op i.t
        omega

theorem ai_same {p : List FnM} (hp : ArgsOk p) {f : Int} (hf : inL f p.length = true) (i : AiM) : aiS p f i = aiOk p f i := by
  unfold aiS aiOk
  rw [fields_same hf]
  by_cases h : fieldsOk p f i = true
  · have := fieldsOk_few hp h
    simp [h, this]
  · rw [Bool.not_eq_true] at h
    simp [h]
end Go.Proofs.YtijgonjnmibifaaGreatDoor
