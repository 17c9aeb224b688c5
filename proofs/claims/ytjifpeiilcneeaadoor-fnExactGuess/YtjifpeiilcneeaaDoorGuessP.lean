/- What is guessed of a right profile, as plain lists. -/
import Derived.Test.YtjifpeiilcneeaaDoorSeenP
namespace Go.Proofs.YtjifpeiilcneeaaDoor
open Go.RowKit

def gs (u t : Int) : Int := if u = 0 ∧ 2 ≤ t then 1 else if t = 0 ∧ 2 ≤ u then 2 else 0
def HereS (l : List SnM) (f a : Int) (k : Nat) : Prop := k < l.length ∧ (snAt l k).func = f ∧ (snAt l k).pc = a

/-- as the program looks for it -/
def GuessI (p : List FnM) (l : List SnM) (f a n : Int) : Prop := (¬ SnRight p l ∧ n = 0) ∨ (SnRight p l ∧ ((∃ k, HereS l f a k ∧ n = gs (snAt l k).went (snAt l k).past) ∨ ((∀ k, ¬ HereS l f a k) ∧ n = 0)))
/-- as the model does -/
def GuessS (p : List FnM) (l : List SnM) (f a n : Int) : Prop := (¬ SnRight p l ∧ n = 0) ∨ (SnRight p l ∧ ¬ JzAt p f a ∧ n = 0) ∨ (SnRight p l ∧ ((∃ k, HereS l f a k ∧ n = gs (snAt l k).went (snAt l k).past) ∨ ((∀ k, HereS l f a k → gs (snAt l k).went (snAt l k).past = 0) ∧ n = 0)))

theorem snLess_trans {a b c : SnM} (h : snLess a b) (k : snLess b c) : snLess a c := by unfold snLess at *; omega

theorem SnRight.rise {p : List FnM} {l : List SnM} (h : SnRight p l) : ∀ (d i : Nat), i + d + 1 < l.length → snLess (snAt l i) (snAt l (i + d + 1))
  | 0, i, hd => by
    have := (h.2.2 (i + 1) (by omega)).2.2 (by omega)
    simpa using this
  | d + 1, i, hd => by
    have h1 := SnRight.rise h d i (by omega)
    have h2 := (h.2.2 (i + d + 1 + 1) (by omega)).2.2 (by omega)
    rw [Nat.add_sub_cancel] at h2
    exact snLess_trans h1 h2

theorem SnRight.one {p : List FnM} {l : List SnM} (h : SnRight p l) {f a : Int} {i j : Nat} (hi : HereS l f a i) (hj : HereS l f a j) : i = j := by
  rcases Nat.lt_trichotomy i j with hl | he | hl
  · exfalso
    obtain ⟨d, rfl⟩ : ∃ d, j = i + d + 1 := ⟨j - i - 1, by omega⟩
    have := h.rise d i hj.1
    unfold snLess at this
    rw [hi.2.1, hi.2.2, hj.2.1, hj.2.2] at this
    omega
  · exact he
  · exfalso
    obtain ⟨d, rfl⟩ : ∃ d, i = j + d + 1 := ⟨i - j - 1, by omega⟩
    have := h.rise d j hi.1
    unfold snLess at this
    rw [hi.2.1, hi.2.2, hj.2.1, hj.2.2] at this
    omega

theorem guess_same {p : List FnM} {l : List SnM} {f a n m : Int} (h : GuessI p l f a n) (k : GuessS p l f a m) : n = m := by
  rcases h with ⟨h1, rfl⟩ | ⟨h1, h2⟩
  · rcases k with ⟨_, rfl⟩ | ⟨k1, _⟩ | ⟨k1, _⟩
    · rfl
    · exact absurd k1 h1
    · exact absurd k1 h1
  · rcases k with ⟨k1, _⟩ | ⟨_, k2, rfl⟩ | ⟨_, k2⟩
    · exact absurd h1 k1
    · rcases h2 with ⟨i, hi, _⟩ | ⟨_, rfl⟩
      · have := (h1.2.2 i hi.1).1
        rw [hi.2.1, hi.2.2] at this
        exact absurd this k2
      · rfl
    · rcases h2 with ⟨i, hi, rfl⟩ | ⟨hn, rfl⟩
      · rcases k2 with ⟨j, hj, rfl⟩ | ⟨kz, rfl⟩
        · rw [h1.one hi hj]
        · exact kz i hi
      · rcases k2 with ⟨j, hj, rfl⟩ | ⟨_, rfl⟩
        · exact absurd hj (hn j)
        · rfl
end Go.Proofs.YtjifpeiilcneeaaDoor
