/- Right profiles, as plain lists; the places of OpJz as a map has them. -/
import Derived.Test.YtclcnillnfkjoaaGreatDoorArgsN
import Derived.Test.YtclcnillnfkjoaaGreatDoorMapS
import Derived.Test.YtclcnillnfkjoaaGreatDoorTakesW
import Derived.Test.YtclcnillnfkjoaaGreatDoorHeightR
namespace Go.Proofs.YtclcnillnfkjoaaGreatDoor
open Go.RowKit

def opOf (c : List (Int × Int)) (n : Nat) : Int := (c.getD n (0, 0)).1

/-- an OpJz stands there -/
def JzAt (p : List FnM) (f a : Int) : Prop := 0 ≤ f ∧ f < p.length ∧ 0 ≤ a ∧ a < (fnAt p f).code.length ∧ opOf (fnAt p f).code a.toNat = 31
instance (p : List FnM) (f a : Int) : Decidable (JzAt p f a) := by unfold JzAt; infer_instance

def snLess (a b : SnM) : Prop := a.func < b.func ∨ (a.func = b.func ∧ a.pc < b.pc)
instance (a b : SnM) : Decidable (snLess a b) := by unfold snLess; infer_instance
def cntOk (s : SnM) : Prop := (0 ≤ s.went ∧ s.went ≤ 1000000) ∧ (0 ≤ s.past ∧ s.past ≤ 1000000) ∧ ¬ (s.went = 0 ∧ s.past = 0)
instance (s : SnM) : Decidable (cntOk s) := by unfold cntOk; infer_instance

def snAt (l : List SnM) (k : Nat) : SnM := l.getD k ⟨0, 0, 0, 0⟩
theorem snAt_get (l : List SnM) (k : Nat) (h : k < l.length) : snAt l k = l[k] := by simp [snAt, List.getD, h]

def SnOk (p : List FnM) (l : List SnM) (k : Nat) : Prop := JzAt p (snAt l k).func (snAt l k).pc ∧ cntOk (snAt l k) ∧ (0 < k → snLess (snAt l (k - 1)) (snAt l k))
def SnRight (p : List FnM) (l : List SnM) : Prop := l.length ≤ 400 ∧ RightP p ∧ ∀ k, k < l.length → SnOk p l k

/-- the OpJz of the first n instructions of a function, none of them seen -/
def jzC (f : Nat) (c : List (Int × Int)) : Nat → PL
  | 0 => []
  | n + 1 => jzC f c n ++ if opOf c n = 31 then [(((f : Int), (n : Int)), (0, 0))] else []
/-- .. of the first n functions -/
def jzP (p : List FnM) : Nat → PL
  | 0 => []
  | n + 1 => jzP p n ++ jzC n (fnAt p n).code (fnAt p n).code.length

theorem findP_append (k : Int × Int) (a b : PL) : findP k (a ++ b) = (findP k a).or (findP k b) := by
  induction a with
  | nil => rfl
  | cons e a ih =>
    simp only [List.cons_append, findP]
    split
    · rfl
    · exact ih

theorem findP_jzC (f : Nat) (c : List (Int × Int)) (g a : Int) : ∀ n, findP (g, a) (jzC f c n) = if g = f ∧ 0 ≤ a ∧ a < n ∧ opOf c a.toNat = 31 then some (0, 0) else none
  | 0 => by rw [if_neg (by omega)]; rfl
  | n + 1 => by
    unfold jzC
    rw [findP_append, findP_jzC f c g a n]
    by_cases h : g = f ∧ 0 ≤ a ∧ a < n ∧ opOf c a.toNat = 31
    · have hB : g = f ∧ 0 ≤ a ∧ a < ((n + 1 : Nat) : Int) ∧ opOf c a.toNat = 31 := by obtain ⟨h1, h2, h3, h4⟩ := h; exact ⟨h1, h2, by omega, h4⟩
      rw [if_pos h, if_pos hB]; rfl
    · rw [if_neg h]
      by_cases h31 : opOf c n = 31
      · rw [if_pos h31]
        by_cases hk : g = f ∧ a = n
        · obtain ⟨rfl, rfl⟩ := hk
          rw [if_pos (by refine ⟨rfl, by omega, by omega, ?_⟩; simpa using h31)]
          simp [findP]
        · rw [if_neg (by
            intro ⟨h1, h2, h3, h4⟩
            by_cases ha : a = n
            · exact hk ⟨h1, ha⟩
            · exact h ⟨h1, h2, by omega, h4⟩)]
          have : ¬ ((g, a) = ((f : Int), (n : Int))) := by simpa using hk
          simp [findP, this]
      · rw [if_neg h31, if_neg (by
            intro ⟨h1, h2, h3, h4⟩
            by_cases ha : a = n
            · subst ha; exact h31 (by simpa using h4)
            · exact h ⟨h1, h2, by omega, h4⟩)]
        rfl

theorem findP_jzP (p : List FnM) (g a : Int) : ∀ n, findP (g, a) (jzP p n) = if 0 ≤ g ∧ g < n ∧ 0 ≤ a ∧ a < (fnAt p g).code.length ∧ opOf (fnAt p g).code a.toNat = 31 then some (0, 0) else none
  | 0 => by rw [if_neg (by omega)]; rfl
  | n + 1 => by
    unfold jzP
    rw [findP_append, findP_jzP p g a n, findP_jzC]
    by_cases h : 0 ≤ g ∧ g < n ∧ 0 ≤ a ∧ a < (fnAt p g).code.length ∧ opOf (fnAt p g).code a.toNat = 31
    · have hB : 0 ≤ g ∧ g < ((n + 1 : Nat) : Int) ∧ 0 ≤ a ∧ a < (fnAt p g).code.length ∧ opOf (fnAt p g).code a.toNat = 31 := by obtain ⟨h0, h1, h2⟩ := h; exact ⟨h0, by omega, h2⟩
      rw [if_pos h, if_pos hB]; rfl
    · rw [if_neg h]
      by_cases hg : g = n
      · subst hg
        by_cases h2 : 0 ≤ a ∧ a < (fnAt p n).code.length ∧ opOf (fnAt p n).code a.toNat = 31
        · rw [if_pos ⟨rfl, h2⟩, if_pos ⟨by omega, by omega, h2⟩]; rfl
        · rw [if_neg (by intro h; exact h2 h.2), if_neg (by intro h; exact h2 h.2.2)]; rfl
      · rw [if_neg (by intro h; exact hg h.1), if_neg (by intro ⟨h1, h3, h2⟩; exact h ⟨h1, by omega, h2⟩)]; rfl

theorem jz_iff (p : List FnM) (g a : Int) : (findP (g, a) (jzP p p.length)).isSome = decide (JzAt p g a) := by
  rw [findP_jzP]
  by_cases h : JzAt p g a
  · rw [decide_eq_true h]; unfold JzAt at h; rw [if_pos h]; rfl
  · rw [decide_eq_false h]; unfold JzAt at h; rw [if_neg h]; rfl

theorem jz_zero (p : List FnM) (g a : Int) : (findP (g, a) (jzP p p.length)).getD (0, 0) = (0, 0) := by
  rw [findP_jzP]
  split <;> rfl

/-- a new key goes behind the others -/
theorem putP_new (k v : Int × Int) (l : PL) (h : findP k l = none) : putP k v l = l ++ [(k, v)] := by
  induction l with
  | nil => rfl
  | cons e l ih =>
    unfold findP at h
    unfold putP
    by_cases hk : k = e.1
    · rw [if_pos hk] at h; simp at h
    · rw [if_neg hk] at h ⊢; rw [ih h]; rfl

theorem put_jz (p : List FnM) (f n : Nat) (h31 : opOf (fnAt p f).code n = 31) : putP ((f : Int), (n : Int)) (0, 0) (jzP p f ++ jzC f (fnAt p f).code n) = jzP p f ++ jzC f (fnAt p f).code (n + 1) := by
  rw [putP_new]
  · rw [List.append_assoc]; congr 1; show _ = jzC f (fnAt p f).code n ++ _; rw [if_pos h31]
  · rw [findP_append, findP_jzP, findP_jzC, if_neg (by omega), if_neg (by omega)]; rfl

theorem skip_jz (p : List FnM) (f n : Nat) (h31 : opOf (fnAt p f).code n ≠ 31) : jzC f (fnAt p f).code (n + 1) = jzC f (fnAt p f).code n := by
  show jzC f (fnAt p f).code n ++ _ = _
  rw [if_neg h31, List.append_nil]

/-- the order of two places -/
def ordS (a b : Int × Int) : Int := if a.1 < b.1 then -1 else if b.1 < a.1 then 1 else if a.2 < b.2 then -1 else if b.2 < a.2 then 1 else 0

theorem ordS_less (a b : SnM) : (ordS (a.func, a.pc) (b.func, b.pc) < 0) ↔ snLess a b := by
  unfold ordS snLess
  simp only
  split
  · omega
  split
  · omega
  split
  · omega
  split <;> omega
end Go.Proofs.YtclcnillnfkjoaaGreatDoor
