/- Rounds of a fixpoint: from the last place to the first, until nothing grows. -/
import Derived.Test.YtljhoplcfoiiiaaDoorLiveP
namespace Go.Proofs.YtljhoplcfoiiiaaDoor
open Go.RowKit

variable {nx : Nat → List Int} {rd : Nat → Nat} {kp : Nat → Nat → Bool} {n : Nat}

/-- asked for at a place, by the sets as they are -/
def FromNow (nx : Nat → List Int) (rd : Nat → Nat) (kp : Nat → Nat → Bool) (zs : List Nat) (a k : Nat) : Prop :=
  (rd a).testBit k = true ∨ ∃ t : Nat, (t : Int) ∈ nx a ∧ (zs.getD t 0).testBit k = true ∧ kp a k = true

def Closed (nx : Nat → List Int) (rd : Nat → Nat) (kp : Nat → Nat → Bool) (zs : List Nat) (a : Nat) : Prop := ∀ k, FromNow nx rd kp zs a k → (zs.getD a 0).testBit k = true

structure Sets (nx : Nat → List Int) (rd : Nat → Nat) (kp : Nat → Nat → Bool) (n : Nat) (zs : List Nat) : Prop where
  len : zs.length = n
  lt : ∀ a, a < n → zs.getD a 0 < 65536
  sound : ∀ a k, a < n → (zs.getD a 0).testBit k = true → Asked nx rd kp a k

structure Back (nx : Nat → List Int) (rd : Nat → Nat) (kp : Nat → Nat → Bool) (n : Nat) (zs0 zs : List Nat) (gr : Bool) (q : Nat) : Prop where
  sets : Sets nx rd kp n zs
  still : gr = false → zs = zs0 ∧ ∀ a, q ≤ a → a < n → Closed nx rd kp zs a
  more : gr = true → zs0.sum < zs.sum

theorem Sets.done {zs : List Nat} (S : Sets nx rd kp n zs) (hn : ∀ a t : Nat, a < n → (t : Int) ∈ nx a → t < n) (h : ∀ a, a < n → Closed nx rd kp zs a) : AskedIs nx rd kp n zs := by
  refine ⟨S.len, S.lt, fun a k ha => ⟨S.sound a k ha, fun x => ?_⟩⟩
  induction x with
  | read a k h1 => exact h a ha k (.inl h1)
  | flow a t k h1 h2 h3 ih => exact h a ha k (.inr ⟨t, h1, ih (hn a t ha h1), h3⟩)

theorem Sets.set {zs : List Nat} (S : Sets nx rd kp n zs) (hn : ∀ a t : Nat, a < n → (t : Int) ∈ nx a → t < n) {q x : Nat} (hq : q < n) (hx : x < 65536) (h1 : ∀ k, x.testBit k = true → (zs.getD q 0).testBit k = true ∨ FromNow nx rd kp zs q k) : Sets nx rd kp n (zs.set q x) := by
  have hl : q < zs.length := by rw [S.len]; exact hq
  refine ⟨by simpa using S.len, fun a ha => ?_, fun a k ha hb => ?_⟩
  · rw [getD_setN _ _ _ _ hl]
    split
    · exact hx
    · exact S.lt a ha
  · rw [getD_setN _ _ _ _ hl] at hb
    split at hb
    · rename_i e
      subst e
      rcases h1 k hb with h | h | ⟨t, h2, h3, h4⟩
      · exact S.sound _ k ha h
      · exact .read _ _ h
      · exact .flow _ t k h2 (S.sound t k (hn _ t ha h2) h3) h4
    · exact S.sound a k ha hb

theorem Back.step {zs0 zs : List Nat} {gr : Bool} {q : Nat} (b : Back nx rd kp n zs0 zs gr (q + 1)) (hn : ∀ a t : Nat, a < n → (t : Int) ∈ nx a → t < n) (hq : q < n) (x : Nat) (hx : x < 65536) (h1 : ∀ k, x.testBit k = true → (zs.getD q 0).testBit k = true ∨ FromNow nx rd kp zs q k)
    (h2 : ∀ k, (zs.getD q 0).testBit k = true → x.testBit k = true) (h3 : ∀ k, FromNow nx rd kp zs q k → x.testBit k = true) : Back nx rd kp n zs0 (zs.set q x) (gr || x != zs.getD q 0) q := by
  have hl : q < zs.length := by rw [b.sets.len]; exact hq
  have hle : zs.getD q 0 ≤ x := le_of_bits h2
  have hsum := sum_set zs q x hl
  refine ⟨b.sets.set hn hq hx h1, fun hg => ?_, fun hg => ?_⟩
  · obtain ⟨g1, g2⟩ : gr = false ∧ x = zs.getD q 0 := by
      rw [Bool.or_eq_false_iff] at hg
      exact ⟨hg.1, by simpa using hg.2⟩
    have e : zs.set q x = zs := by rw [g2]; exact set_getD_self zs q 0 hl
    obtain ⟨s1, s2⟩ := b.still g1
    rw [e]
    refine ⟨s1, fun a ha hn' => ?_⟩
    by_cases h : a = q
    · subst h
      intro k hk
      rw [← g2]
      exact h3 k hk
    · exact s2 a (by omega) hn'
  · by_cases hx' : x = zs.getD q 0
    · have hg' : gr = true := by
        rcases gr with _ | _
        · simp [hx'] at hg
        · rfl
      have := b.more hg'
      omega
    · cases gr with
      | true => have := b.more rfl; omega
      | false =>
        have := (b.still rfl).1
        rw [← this]
        omega

theorem Back.skip {zs0 zs : List Nat} {gr : Bool} {q : Nat} (b : Back nx rd kp n zs0 zs gr (q + 1)) (h1 : nx q = []) (h2 : rd q = 0) : Back nx rd kp n zs0 zs gr q := by
  refine ⟨b.sets, fun hg => ?_, b.more⟩
  obtain ⟨s1, s2⟩ := b.still hg
  refine ⟨s1, fun a ha hn' => ?_⟩
  by_cases h : a = q
  · subst h
    intro k hk
    rcases hk with hk | ⟨t, ht, _⟩
    · rw [h2] at hk; simp at hk
    · rw [h1] at ht; simp at ht
  · exact s2 a (by omega) hn'

theorem Back.start {zs : List Nat} (S : Sets nx rd kp n zs) : Back nx rd kp n zs zs false n :=
  ⟨S, fun _ => ⟨rfl, fun a h1 h2 => by omega⟩, fun h => by cases h⟩

theorem Sets.sum {zs : List Nat} (S : Sets nx rd kp n zs) : zs.sum ≤ n * 65536 := by
  have := sum_lt zs (by rw [S.len]; exact S.lt)
  rwa [S.len] at this

/-- what a place's set was made of is still so -/
def Post (nx : Nat → List Int) (rd : Nat → Nat) (kp : Nat → Nat → Bool) (n : Nat) (zs : List Nat) : Prop := ∀ a k, a < n → (zs.getD a 0).testBit k = true → FromNow nx rd kp zs a k

theorem Post.set {zs : List Nat} (P : Post nx rd kp n zs) {q x : Nat} (hl : q < zs.length) (h1 : ∀ k, x.testBit k = true → FromNow nx rd kp zs q k) (h2 : ∀ k, (zs.getD q 0).testBit k = true → x.testBit k = true) : Post nx rd kp n (zs.set q x) := by
  have up : ∀ a k, FromNow nx rd kp zs a k → FromNow nx rd kp (zs.set q x) a k := by
    intro a k h
    rcases h with h | ⟨t, h3, h4, h5⟩
    · exact .inl h
    · refine .inr ⟨t, h3, ?_, h5⟩
      rw [getD_setN _ _ _ _ hl]
      split
      · rename_i e; subst e; exact h2 k h4
      · exact h4
  intro a k ha hb
  rw [getD_setN _ _ _ _ hl] at hb
  split at hb
  · rename_i e; subst e; exact up _ k (h1 k hb)
  · exact up a k (P a k ha hb)

theorem Sets.none (n : Nat) : Sets nx rd kp n (List.replicate n 0) := by
  have : ∀ a, (List.replicate n 0).getD a 0 = 0 := fun a => by simp only [List.getD, List.getElem?_replicate]; split <;> rfl
  exact ⟨by simp, fun a _ => by rw [this]; omega, fun a k _ h => by rw [this] at h; simp at h⟩

theorem Post.none (n : Nat) : Post nx rd kp n (List.replicate n 0) := fun a k _ h => by
  have : (List.replicate n 0).getD a 0 = 0 := by simp only [List.getD, List.getElem?_replicate]; split <;> rfl
  rw [this] at h; simp at h

/-- what is joined, place by place, of the first j of those to which it goes on -/
theorem join_bit (zs : List Nat) (f : Nat → Nat) : ∀ (ts : List Nat) (x : Nat) (k : Nat), (ts.foldl (fun x t => x ||| f (zs.getD t 0)) x).testBit k = true ↔ x.testBit k = true ∨ ∃ t ∈ ts, (f (zs.getD t 0)).testBit k = true
  | [], x, k => by simp
  | t :: ts, x, k => by
    rw [List.foldl_cons, join_bit zs f ts, Nat.testBit_or]
    simp [or_assoc]
end Go.Proofs.YtljhoplcfoiiiaaDoor
