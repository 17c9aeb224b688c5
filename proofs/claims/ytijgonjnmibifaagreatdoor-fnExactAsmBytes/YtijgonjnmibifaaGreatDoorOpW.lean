/- impl.inList, impl.rowOf, impl.OpName; spec.OpName: an op's row of the table. -/
import Derived.Test.YtijgonjnmibifaaGreatDoorOpTab
namespace Go.Proofs.YtijgonjnmibifaaGreatDoor
open Go.RowKit

def inL (a : Int) (n : Nat) : Bool := decide (0 ≤ a ∧ a < n)

theorem inList (a : Int) (n : Nat) (w : World) (_hn : n ≤ 9223372036854775807) :
    Calls Tryz.prog 93 #[.int .i64 a, .int .i64 (n : Int)] w fun e w' => e = .returned (.bool (inL a n)) ∧ w' = w := by
  by_cases h0 : 0 ≤ a
  · by_cases h1 : a < n
    · have hL : inL a n = true := by simp [inL, h0, h1]
      rw [hL]
      go_enter Tryz.func93, Tryz.ntmps93
      go_wp2
      go_ret
      exact ⟨rfl, rfl⟩
    · have hL : inL a n = false := by simp [inL]; omega
      rw [hL]
      go_enter Tryz.func93, Tryz.ntmps93
      go_wp2
      go_ret
      exact ⟨rfl, rfl⟩
  · have hL : inL a n = false := by simp [inL]; omega
    rw [hL]
    go_enter Tryz.func93, Tryz.ntmps93
    go_wp2
    go_ret
    exact ⟨rfl, rfl⟩

set_option maxHeartbeats 800000 in
theorem rowOf (op : Int) (w : World) (ht : Tab w) :
    Calls Tryz.prog 145 #[.int .i64 op] w fun e w' => e = .returned (.agg #[.string ⟨(opRow op).1.toArray⟩, .int .i64 (opRow op).2.1, .int .i64 (opRow op).2.2.1, .int .i64 (opRow op).2.2.2]) ∧ Below w.heap.size w w' := by
  by_cases h : 0 ≤ op ∧ op < 39
  · have hR : opRow op = opN op.toNat := by unfold opRow; rw [if_pos h]
    rw [hR]
    obtain ⟨k, rfl⟩ := Int.eq_ofNat_of_zero_le h.1
    obtain ⟨c0, c1, c2, c3⟩ := ht.2 k (by omega)
    have hw0 := ht.1
    clear ht hR
    rw [Int.toNat_natCast]
    generalize opN k = r at c0 c1 c2 c3 ⊢
    have hk : k < 39 := by omega
    have hL : inL k 39 = true := by simp [inL]; omega
    clear h
    go_enter Tryz.func145, Tryz.ntmps145
    go_wp2_with fail
    refine (inList k 39 _ (by omega)).mono ?_
    rintro e w1 ⟨rfl, h⟩
    subst w1
    rw [hL]
    go_wp2_with fail
    exact bodyPost_ret (v := .agg #[.string ⟨r.1.toArray⟩, .int .i64 r.2.1, .int .i64 r.2.2.1, .int .i64 r.2.2.2]) (by simp [results, Tryz.results145, go_sem]) rfl ⟨rfl, (Below.refl _ _).alloc (Nat.le_refl _) _⟩
  · have hR : opRow op = ([], 0, 0, 0) := by unfold opRow; rw [if_neg h]
    rw [hR]
    have hL : inL op 39 = false := by simp [inL]; omega
    clear ht
    go_enter Tryz.func145, Tryz.ntmps145
    go_wp2_with fail
    refine (inList op 39 _ (by omega)).mono ?_
    rintro e w1 ⟨rfl, h⟩
    subst w1
    rw [hL]
    go_wp2_with fail
    exact bodyPost_ret (v := .agg #[.string ⟨#[]⟩, .int .i64 0, .int .i64 0, .int .i64 0]) (by simp [results, Tryz.results145, go_sem]) rfl ⟨rfl, (Below.refl _ _).alloc (Nat.le_refl _) _⟩

set_option maxHeartbeats 800000 in
theorem specName (op : Int) (w : World) :
    Calls Tryz.prog 150 #[.int .i64 op] w fun e w' => e = .returned (.string ⟨(opRow op).1.toArray⟩) ∧ Below w.heap.size w w' := by
  by_cases h : 10 ≤ op ∧ op ≤ 38
  · obtain ⟨k, rfl⟩ : ∃ k : Nat, op = (k : Int) + 10 := ⟨(op - 10).toNat, by omega⟩
    have hk : k < 29 := by omega
    clear h
    go_enter Tryz.func150, Tryz.ntmps150
    go_wp2_with fail
    go_ret
    refine ⟨?_, ((Below.refl _ _).alloc (Nat.le_refl _) _).alloc (by simp) _⟩
    match k, hk with
    | 0, _ => rfl | 1, _ => rfl | 2, _ => rfl | 3, _ => rfl | 4, _ => rfl | 5, _ => rfl | 6, _ => rfl | 7, _ => rfl | 8, _ => rfl | 9, _ => rfl | 10, _ => rfl | 11, _ => rfl | 12, _ => rfl | 13, _ => rfl | 14, _ => rfl | 15, _ => rfl | 16, _ => rfl | 17, _ => rfl | 18, _ => rfl | 19, _ => rfl | 20, _ => rfl | 21, _ => rfl | 22, _ => rfl | 23, _ => rfl | 24, _ => rfl | 25, _ => rfl | 26, _ => rfl | 27, _ => rfl | 28, _ => rfl
    | k + 29, h => omega
  · by_cases h5 : 1 ≤ op ∧ op ≤ 5
    · obtain ⟨k, rfl⟩ : ∃ k : Nat, op = (k : Int) + 1 := ⟨(op - 1).toNat, by omega⟩
      have hk : k < 5 := by omega
      clear h h5
      go_enter Tryz.func150, Tryz.ntmps150
      go_wp2_with fail
      go_ret
      refine ⟨?_, ((Below.refl _ _).alloc (Nat.le_refl _) _).alloc (by simp) _⟩
      match k, hk with
      | 0, _ => rfl | 1, _ => rfl | 2, _ => rfl | 3, _ => rfl | 4, _ => rfl
      | k + 5, h => omega
    · have hR : opRow op = ([], 0, 0, 0) := by
        unfold opRow
        split
        · have : op = 0 ∨ op = 6 ∨ op = 7 ∨ op = 8 ∨ op = 9 := by omega
          rcases this with rfl | rfl | rfl | rfl | rfl <;> rfl
        · rfl
      rw [hR]
      go_enter Tryz.func150, Tryz.ntmps150
      go_wp2_with fail
      all_goals
        go_ret
        exact ⟨rfl, ((Below.refl _ _).alloc (Nat.le_refl _) _).alloc (by simp) _⟩
end Go.Proofs.YtijgonjnmibifaaGreatDoor
