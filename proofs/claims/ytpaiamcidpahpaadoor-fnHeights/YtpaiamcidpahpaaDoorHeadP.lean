/- Headers, as a plain account: the places that are gone back to, sorted, each once, are the headers. -/
import Derived.Test.YtpaiamcidpahpaaDoorHeightR
import Derived.Lib.SlicesCompact
namespace Go.Proofs.YtpaiamcidpahpaaDoor
open Go.RowKit

/-- does the instruction at place k go back to a place, and is it reached? -/
def hits (c : List (Int × Int)) (hs : List Int) (k : Nat) : Bool := decide (hs.getD k 0 ≠ -1) && (decide ((insAt c k).1 = 30) || decide ((insAt c k).1 = 31)) && decide ((insAt c k).2 ≤ (k : Int))
/-- to which, of the first n places -/
def backs (c : List (Int × Int)) (hs : List Int) (n : Nat) : List Int := ((List.range n).filter (hits c hs)).map fun k => (insAt c k).2

theorem backs_succ (c : List (Int × Int)) (hs : List Int) (n : Nat) : backs c hs (n + 1) = backs c hs n ++ (if hits c hs n then [(insAt c n).2] else []) := by
  unfold backs
  rw [List.range_succ, List.filter_append, List.map_append]
  congr 1
  by_cases h : hits c hs n = true <;> simp [h]

theorem backs_length (c : List (Int × Int)) (hs : List Int) (n : Nat) : (backs c hs n).length ≤ n := by
  unfold backs
  rw [List.length_map]
  exact Nat.le_trans (List.length_filter_le _ _) (by simp)

/-- of a list that rises or stays: what is kept of it rises, and has the same members -/
theorem compactUpTo_sorted (d : Array Int) (hd : ∀ i j, i ≤ j → j < d.size → d[i]! ≤ d[j]!) : ∀ m, m ≤ d.size → (Lib.compactUpTo d m).Pairwise (· < ·) ∧ (∀ x ∈ Lib.compactUpTo d m, ∃ j, j < m ∧ d[j]! = x) ∧ ∀ j, j < m → d[j]! ∈ Lib.compactUpTo d m
  | 0, _ => by
    refine ⟨by simp [Lib.compactUpTo], fun x hx => by simp [Lib.compactUpTo] at hx, fun j hj => by omega⟩
  | m + 1, hm => by
    obtain ⟨h1, h2, h3⟩ := compactUpTo_sorted d hd m (by omega)
    rw [Lib.compactUpTo_succ]
    by_cases hk : Lib.keeps d m = true
    · rw [if_pos hk]
      refine ⟨?_, fun x hx => ?_, fun j hj => ?_⟩
      · rw [List.pairwise_append]
        refine ⟨h1, by simp, fun x hx y hy => ?_⟩
        simp at hy
        subst hy
        obtain ⟨j, hj, rfl⟩ := h2 x hx
        have hle := hd j m (by omega) (by omega)
        have hne : d[j]! ≠ d[m]! := fun e => by
          have h4 := hd j (m - 1) (by omega) (by omega)
          have h5 := hd (m - 1) m (by omega) (by omega)
          have h6 : d[m - 1]! = d[m]! := by omega
          simp [Lib.keeps, h6] at hk
          omega
        omega
      · rcases List.mem_append.1 hx with hx | hx
        · obtain ⟨j, hj, e⟩ := h2 x hx; exact ⟨j, by omega, e⟩
        · simp at hx; exact ⟨m, by omega, hx.symm⟩
      · by_cases he : j = m
        · subst he; simp
        · exact List.mem_append_left _ (h3 j (by omega))
    · rw [if_neg hk, List.append_nil]
      refine ⟨h1, fun x hx => by obtain ⟨j, hj, e⟩ := h2 x hx; exact ⟨j, by omega, e⟩, fun j hj => ?_⟩
      by_cases he : j = m
      · subst he
        have hk' : j ≠ 0 ∧ d[j - 1]! = d[j]! := by simp [Lib.keeps] at hk; omega
        rw [← hk'.2]
        exact h3 (j - 1) (by omega)
      · exact h3 j (by omega)

/-- two lists that rise and have the same members are one -/
theorem rise_ext : ∀ (l l' : List Int), l.Pairwise (· < ·) → l'.Pairwise (· < ·) → (∀ x, x ∈ l ↔ x ∈ l') → l = l'
  | [], [], _, _, _ => rfl
  | [], y :: l', _, _, h => by have := (h y).2 (by simp); simp at this
  | x :: l, [], _, _, h => by have := (h x).1 (by simp); simp at this
  | x :: l, y :: l', h1, h2, h => by
    obtain ⟨a1, a2⟩ := List.pairwise_cons.1 h1
    obtain ⟨b1, b2⟩ := List.pairwise_cons.1 h2
    have hxy : x = y := by
      rcases List.mem_cons.1 ((h x).1 (by simp)) with e | e
      · exact e
      · rcases List.mem_cons.1 ((h y).2 (by simp)) with e' | e'
        · exact e'.symm
        · have := b1 x e; have := a1 y e'; omega
    subst hxy
    rw [rise_ext l l' a2 b2 fun z => ?_]
    constructor
    · intro hz
      rcases List.mem_cons.1 ((h z).1 (by simp [hz])) with e | e
      · have := a1 z hz; omega
      · exact e
    · intro hz
      rcases List.mem_cons.1 ((h z).2 (by simp [hz])) with e | e
      · have := b1 z hz; omega
      · exact e

theorem compact_sorted (zs : List Int) (hz : zs.Pairwise (· ≤ ·)) : (Lib.compact zs).Pairwise (· < ·) ∧ ∀ x, x ∈ Lib.compact zs ↔ x ∈ zs := by
  have hd : ∀ i j, i ≤ j → j < zs.toArray.size → zs.toArray[i]! ≤ zs.toArray[j]! := fun i j hij hj => by
    have hj' : j < zs.length := by simpa using hj
    have hi' : i < zs.length := by omega
    simp only [List.getElem!_toArray, List.getElem!_eq_getElem?_getD, List.getElem?_eq_getElem hj', List.getElem?_eq_getElem hi', Option.getD_some]
    rcases Nat.lt_or_ge i j with h | h
    · exact List.pairwise_iff_getElem.1 hz i j hi' hj' h
    · obtain rfl : i = j := by omega
      omega
  obtain ⟨h1, h2, h3⟩ := compactUpTo_sorted zs.toArray hd zs.length (by simp)
  refine ⟨h1, fun x => ⟨fun hx => ?_, fun hx => ?_⟩⟩
  · obtain ⟨j, hj, rfl⟩ := h2 x hx
    simp [hj]
  · obtain ⟨j, hj, rfl⟩ := List.getElem_of_mem hx
    have := h3 j hj
    simp only [List.getElem!_toArray, List.getElem!_eq_getElem?_getD, List.getElem?_eq_getElem hj, Option.getD_some] at this
    exact this

theorem sort_le (zs : List Int) : (zs.mergeSort fun x y => decide (x ≤ y)).Pairwise (· ≤ ·) := by
  have := List.pairwise_mergeSort (le := fun (x y : Int) => decide (x ≤ y)) (fun a b c h1 h2 => by simp at h1 h2 ⊢; omega) (fun a b => by simp; omega) zs
  exact this.imp (fun h => by simpa using h)

/-- THE HEADERS -/
theorem backs_heads {c : List (Int × Int)} {hs : List Int} (hr : ∀ j, j < hs.length → hs.getD j 0 = -1 ∨ 0 ≤ hs.getD j 0) (ha : ∀ j, j < hs.length → (insAt c j).1 = 30 ∨ (insAt c j).1 = 31 → 0 ≤ (insAt c j).2) :
    Lib.compact ((backs c hs hs.length).mergeSort fun x y => decide (x ≤ y)) = (heads c hs).map fun (n : Nat) => (n : Int) := by
  obtain ⟨h1, h2⟩ := compact_sorted _ (sort_le (backs c hs hs.length))
  refine rise_ext _ _ h1 ?_ fun x => ?_
  · rw [List.pairwise_map]
    exact (heads_rise c hs).imp (fun h => by omega)
  · rw [h2, List.mem_mergeSort]
    unfold backs heads
    simp only [List.mem_map, List.mem_filter, List.mem_range]
    constructor
    · rintro ⟨k, ⟨hk, hh⟩, rfl⟩
      simp only [hits, Bool.and_eq_true, Bool.or_eq_true, decide_eq_true_eq] at hh
      obtain ⟨⟨hn, ho⟩, hA⟩ := hh
      have h0 := ha k hk ho
      refine ⟨(insAt c k).2.toNat, ⟨by omega, ?_⟩, by omega⟩
      unfold isHead
      rw [List.any_eq_true]
      refine ⟨k, List.mem_range.2 hk, ?_⟩
      simp only [Bool.and_eq_true, Bool.or_eq_true, decide_eq_true_eq]
      have := hr k hk
      exact ⟨⟨⟨by omega, by omega⟩, ho⟩, by omega⟩
    · rintro ⟨t, ⟨ht, hh⟩, rfl⟩
      unfold isHead at hh
      obtain ⟨k, hk, h3⟩ := List.any_eq_true.1 hh
      have hk' := List.mem_range.1 hk
      simp only [Bool.and_eq_true, Bool.or_eq_true, decide_eq_true_eq] at h3
      obtain ⟨⟨⟨hle, hn⟩, ho⟩, hA⟩ := h3
      refine ⟨k, ⟨hk', ?_⟩, hA⟩
      simp only [hits, Bool.and_eq_true, Bool.or_eq_true, decide_eq_true_eq]
      exact ⟨⟨by omega, ho⟩, by omega⟩
end Go.Proofs.YtpaiamcidpahpaaDoor
