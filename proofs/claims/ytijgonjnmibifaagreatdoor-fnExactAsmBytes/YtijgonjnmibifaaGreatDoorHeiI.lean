/- impl.Heights. -/
import Derived.Test.YtijgonjnmibifaaGreatDoorVerI
import Derived.Laws.OwnMore
namespace Go.Proofs.YtijgonjnmibifaaGreatDoor
open Go.RowKit

/-- the heights that are told of function f -/
def AnsIs (p : List FnM) (f : Int) (hs : List Int) : Prop :=
  (RightP p ∧ inL f p.length = true ∧ HRun p (fnAt p f).code (startH (fnAt p f).code.length) (.inl hs)) ∨ (¬ (RightP p ∧ inL f p.length = true) ∧ hs = [])

theorem AnsIs.unique {p : List FnM} {f : Int} {hs hs' : List Int} (h : AnsIs p f hs) (k : AnsIs p f hs') : hs = hs' := by
  rcases h with ⟨a, b, c⟩ | ⟨a, b⟩
  · rcases k with ⟨_, _, c'⟩ | ⟨a', _⟩
    · have := c.unique c'
      simpa using this
    · exact absurd ⟨a, b⟩ a'
  · rcases k with ⟨a', b', _⟩ | ⟨_, b'⟩
    · exact absurd ⟨a', b'⟩ a
    · rw [b, b']

/-- a slice of numbers in memory of the call's own -/
def OwnV (B : Nat) (w : World) (v : Value) (zs : List Int) : Prop := ∃ A cap, v = .slice A zs.length cap ∧ zs.length ≤ 1048576 ∧ (zs = [] ∨ ∃ b, A = some ⟨b, 0, none⟩ ∧ B ≤ b ∧ VRow w b (ints zs))

theorem OwnV.nil (B : Nat) (w : World) (A : Option Addr) (cap : Nat) : OwnV B w (.slice A 0 cap) [] := ⟨A, cap, rfl, by simp, .inl rfl⟩
theorem OwnV.below {B : Nat} {w w' : World} {v : Value} {zs : List Int} (h : OwnV B w v zs) (hb : Below w.heap.size w w') : OwnV B w' v zs := by
  obtain ⟨A, cap, h1, h2, h3⟩ := h
  refine ⟨A, cap, h1, h2, h3.imp id ?_⟩
  rintro ⟨b, e1, e2, e3⟩
  exact ⟨b, e1, e2, e3.below hb⟩
theorem OwnV.lower {B B' : Nat} {w : World} {v : Value} {zs : List Int} (h : OwnV B w v zs) (hB : B' ≤ B) : OwnV B' w v zs := by
  obtain ⟨A, cap, h1, h2, h3⟩ := h
  refine ⟨A, cap, h1, h2, h3.imp id ?_⟩
  rintro ⟨b, e1, e2, e3⟩
  exact ⟨b, e1, Nat.le_trans hB e2, e3⟩
theorem OwnV.form {B : Nat} {w : World} {v : Value} {zs : List Int} (h : OwnV B w v zs) : ∃ A cap, v = .slice A zs.length cap := let ⟨A, cap, h, _⟩ := h; ⟨A, cap, h⟩

/-- .. and how -/
def HeiTold (p : List FnM) (f : Int) (w w' : World) (e : Ending) : Prop := ∃ u hs, e = .returned u ∧ OwnV w.heap.size w' u hs ∧ AnsIs p f hs ∧ Below w.heap.size w w'

theorem hsOf_get {n : Nat} {s : IS} (hl : s.m.length = n) (k : Nat) (hk : k < n) : (hsOf n s).h.getD k 0 = (s.m.getD k none).getD (-1) := hsOf_getD hl k hk

theorem all_same {zs hs : List Int} (hl : zs.length = hs.length) (h : ∀ j, j < zs.length → zs.getD j 0 = hs.getD j 0) : zs = hs := by
  apply List.ext_getElem hl
  intro j h1 h2
  have := h j h1
  simpa [List.getD, h1, h2] using this

end Go.Proofs.YtijgonjnmibifaaGreatDoor
