/- When a state is right for a right program, as plain lists; the model's way and the program's are the same. -/
import Derived.Test.YtfaameimocjaiaaDoorSt
import Derived.Test.YtfaameimocjaiaaDoorHeiI
namespace Go.Proofs.YtfaameimocjaiaaDoor
open Go.RowKit

/-- all of a state but its frames -/
def heapOk (hp : List (List Int)) : Bool := decide (hp.length ≤ 30) && hp.all (fun a => decide (a.length ≤ 50))
def restOk (s : StM) : Bool := (decide (0 ≤ s.fuel) && decide (s.fuel ≤ 3000)) && heapOk s.heap && decide ((s.out.length : Int) ≤ 3000 - s.fuel)

/-- .. and how it stands: done, or with frames -/
def toldOk (s : StM) : Bool :=
  if s.done then s.frames.isEmpty && (s.trap == 0 || (decide (11 ≤ s.trap) && decide (s.trap ≤ 15) && s.value == 0))
  else s.value == 0 && s.trap == 0 && decide (1 ≤ s.frames.length) && decide (s.frames.length ≤ 10)

/-- the heights of function f -/
def HsOf (p : List FnM) (f : Nat) (hs : List Int) : Prop := HRun p (fnAt p f).code (startH (fnAt p f).code.length) (.inl hs)

/-- a frame, with so much on its stack, as the model looks at it: above, the function that it has called, or -1 -/
def standsS (p : List FnM) (hs : List Int) (f : FrM) (above : Int) : Bool :=
  decide ((f.locals.length : Int) = (fnAt p f.func).locals) && decide (0 ≤ f.pc) && decide (f.pc < (fnAt p f.func).code.length) &&
    (if above < 0 then decide (0 ≤ hs.getD f.pc.toNat 0) && decide ((f.stack.length : Int) = hs.getD f.pc.toNat 0)
     else decide (0 < f.pc) && decide (0 ≤ hs.getD (f.pc.toNat - 1) 0) && decide ((fnAt p f.func).code.getD (f.pc.toNat - 1) (0, 0) = (32, above)) && decide ((f.stack.length : Int) = hs.getD f.pc.toNat 0 - 1))

/-- .. and as the program does: last, or not, with the function of the frame behind it -/
def standsI (p : List FnM) (hs : List Int) (f : FrM) (next : Option Int) : Bool :=
  decide (0 ≤ f.pc) && decide (f.pc < (fnAt p f.func).code.length) && decide (0 ≤ hs.getD f.pc.toNat 0) && decide ((f.locals.length : Int) = (fnAt p f.func).locals) &&
    (match next with
     | none => decide ((f.stack.length : Int) = hs.getD f.pc.toNat 0)
     | some g => decide (0 < f.pc) && decide (0 ≤ hs.getD (f.pc.toNat - 1) 0) && decide ((fnAt p f.func).code.getD (f.pc.toNat - 1) (0, 0) = (32, g)) && decide ((f.stack.length : Int) = hs.getD f.pc.toNat 0 - 1))

def nextF (fs : List FrM) (i : Nat) : Option Int := (fs[i + 1]?).map FrM.func

/-- each frame of a list -/
def FrOkI (p : List FnM) (fs : List FrM) (i : Nat) : Prop := ∃ f, fs[i]? = some f ∧ inL f.func p.length = true ∧ ∃ hs, HsOf p f.func.toNat hs ∧ standsI p hs f (nextF fs i) = true
def FrOkS (p : List FnM) (fs : List FrM) (i : Nat) : Prop := ∃ f, fs[i]? = some f ∧ inL f.func p.length = true ∧ ∃ hs, HsOf p f.func.toNat hs ∧ standsS p hs f ((nextF fs i).getD (-1)) = true

def StRightI (p : List FnM) (s : StM) : Prop := RightP p ∧ restOk s = true ∧ toldOk s = true ∧ ∀ i, i < s.frames.length → FrOkI p s.frames i
def StRightS (p : List FnM) (s : StM) : Prop := RightP p ∧ restOk s = true ∧ toldOk s = true ∧ ∀ i, i < s.frames.length → FrOkS p s.frames i

theorem inL_iff {f : Int} {n : Nat} : inL f n = true ↔ 0 ≤ f ∧ f < n := by simp [inL]

theorem frOk_iff {p : List FnM} {fs : List FrM} : (∀ i, i < fs.length → FrOkI p fs i) ↔ (∀ i, i < fs.length → FrOkS p fs i) := by
  constructor
  · intro h i hi
    obtain ⟨f, h1, h2, hs, h3, h4⟩ := h i hi
    refine ⟨f, h1, h2, hs, h3, ?_⟩
    unfold standsI at h4
    unfold standsS
    cases hn : nextF fs i with
    | none =>
      rw [hn] at h4
      simp only [Bool.and_eq_true, decide_eq_true_eq] at h4
      simp only [Option.getD_none, show (-1 : Int) < 0 from by omega, if_true, Bool.and_eq_true, decide_eq_true_eq]
      omega
    | some g =>
      rw [hn] at h4
      have hg : 0 ≤ g := by
        have hl : i + 1 < fs.length := by
          unfold nextF at hn
          rcases Nat.lt_or_ge (i + 1) fs.length with h | h
          · exact h
          · rw [List.getElem?_eq_none h] at hn; cases hn
        obtain ⟨k, k1, k2, _⟩ := h (i + 1) hl
        unfold nextF at hn
        rw [k1] at hn
        simp only [Option.map_some, Option.some.injEq] at hn
        rw [inL_iff] at k2
        omega
      simp only [Bool.and_eq_true, decide_eq_true_eq] at h4
      simp only [Option.getD_some, show ¬ g < 0 by omega, if_false, Bool.and_eq_true, decide_eq_true_eq]
      exact ⟨⟨⟨h4.1.2, h4.1.1.1.1⟩, h4.1.1.1.2⟩, h4.2⟩
  · intro h i hi
    obtain ⟨f, h1, h2, hs, h3, h4⟩ := h i hi
    refine ⟨f, h1, h2, hs, h3, ?_⟩
    unfold standsS at h4
    unfold standsI
    cases hn : nextF fs i with
    | none =>
      rw [hn] at h4
      simp only [Option.getD_none, show (-1 : Int) < 0 from by omega, if_true, Bool.and_eq_true, decide_eq_true_eq] at h4
      simp only [Bool.and_eq_true, decide_eq_true_eq]
      omega
    | some g =>
      rw [hn] at h4
      have hg : 0 ≤ g := by
        have hl : i + 1 < fs.length := by
          unfold nextF at hn
          rcases Nat.lt_or_ge (i + 1) fs.length with h | h
          · exact h
          · rw [List.getElem?_eq_none h] at hn; cases hn
        obtain ⟨k, k1, k2, _⟩ := h (i + 1) hl
        unfold nextF at hn
        rw [k1] at hn
        simp only [Option.map_some, Option.some.injEq] at hn
        rw [inL_iff] at k2
        omega
      simp only [Option.getD_some, show ¬ g < 0 by omega, if_false, Bool.and_eq_true, decide_eq_true_eq] at h4
      simp only [Bool.and_eq_true, decide_eq_true_eq]
      refine ⟨⟨⟨⟨h4.1.1.2, h4.1.2⟩, ?_⟩, h4.1.1.1⟩, h4.2⟩
      have := h4.2.2
      omega

theorem stRight_iff {p : List FnM} {s : StM} : StRightI p s ↔ StRightS p s := by
  unfold StRightI StRightS
  rw [frOk_iff]
end Go.Proofs.YtfaameimocjaiaaDoor
