/- impl.Puts, spec.Puts; laws.FnExactPuts. -/
import Derived.Test.YtijgonjnmibifaaGreatDoorOpW
import Derived.Test.YtijgonjnmibifaaGreatDoorPrgTo
import Derived.Test.YtijgonjnmibifaaGreatDoorArgs
namespace Go.Proofs.YtijgonjnmibifaaGreatDoor
open Go.RowKit

theorem opRow_of (op : Int) {P : List UInt8 × Int × Int × Int → Prop} (h0 : ¬ (0 ≤ op ∧ op < 39) → P ([], 0, 0, 0)) (h1 : ∀ k : Nat, k < 39 → op = k → P (opN k)) : P (opRow op) := by
  unfold opRow
  split
  · rename_i h
    exact h1 op.toNat (by omega) (by omega)
  · rename_i h
    exact h0 h

def isBin (op : Int) : Bool := decide (10 ≤ op ∧ op ≤ 23)
def isUn (op : Int) : Bool := decide (24 ≤ op ∧ op ≤ 29)

theorem specBin (op : Int) (w : World) : Calls Tryz.prog 87 #[.int .i64 op] w fun e w' => e = .returned (.bool (isBin op)) ∧ w' = w := by
  have hq : isBin op = (decide (10 ≤ op) && decide (op ≤ 23)) := by simp [isBin]
  rw [hq]
  by_cases h : 10 ≤ op
  · go_enter Tryz.func87, Tryz.ntmps87
    go_wp2
    go_ret
    exact ⟨by simp [h], rfl⟩
  · have h' : decide (10 ≤ op) = false := by simpa using h
    go_enter Tryz.func87, Tryz.ntmps87
    go_wp2
    go_ret
    exact ⟨by simp, rfl⟩

theorem specUn (op : Int) (w : World) : Calls Tryz.prog 88 #[.int .i64 op] w fun e w' => e = .returned (.bool (isUn op)) ∧ w' = w := by
  have hq : isUn op = (decide (24 ≤ op) && decide (op ≤ 29)) := by simp [isUn]
  rw [hq]
  by_cases h : 24 ≤ op
  · go_enter Tryz.func88, Tryz.ntmps88
    go_wp2
    go_ret
    exact ⟨by simp [h], rfl⟩
  · have h' : decide (24 ≤ op) = false := by simpa using h
    go_enter Tryz.func88, Tryz.ntmps88
    go_wp2
    go_ret
    exact ⟨by simp, rfl⟩

/-- what the fields of a row are -/
theorem rowField (s : ByteArray) (a b c : Int) (W : World) :
    (Instr.field 221 (.agg #[.string s, .int .i64 a, .int .i64 b, .int .i64 c]) 3).run Tryz.prog W = .ok (.int .i64 c) W := by kernel_rfl

set_option maxHeartbeats 800000 in
theorem implPuts (op a : Int) (w : World) (ht : Tab w) :
    Calls Tryz.prog 128 #[.agg #[.int .i64 op, .int .i64 a]] w fun e w' => e = .returned (.int .i64 (opRow op).2.2.2) ∧ Below w.heap.size w w' := by
  have ht' : ∀ o, Tab (w.alloc o) := fun o => ht.below ((Below.refl _ _).alloc (Nat.le_refl _) _)
  have Ht : Hid (∀ o, Tab (w.alloc o)) := ht'
  clear ht ht'
  go_enter Tryz.func128, Tryz.ntmps128
  go_wp2_with fail
  refine (rowOf op _ (Ht.out _)).mono ?_
  rintro e w1 ⟨rfl, hb⟩
  have Hb : Hid (Below w.heap.size w w1) := ((Below.refl _ _).alloc (Nat.le_refl _) _).trans (hb.mono (by simp))
  clear hb
  have hf := rowField
  go_wp2_with fail
  go_ret
  exact ⟨rfl, Hb.out⟩

theorem puts_bin (op : Int) (h : isBin op = true ∨ isUn op = true) : (opRow op).2.2.2 = 1 := by
  have h1 : 10 ≤ op ∧ op ≤ 29 := by simp [isBin, isUn] at h; omega
  obtain ⟨k, rfl⟩ := Int.eq_ofNat_of_zero_le (show 0 ≤ op by omega)
  have : ∀ k : Fin 39, 10 ≤ k.1 → k.1 ≤ 29 → (opRow (k.1 : Int)).2.2.2 = 1 := by decide
  exact this ⟨k, by omega⟩ (by show 10 ≤ k; omega) (by show k ≤ 29; omega)

theorem puts_one (op : Int) (h : op = 1 ∨ op = 2 ∨ op = 32 ∨ op = 34 ∨ op = 35 ∨ op = 37) : (opRow op).2.2.2 = 1 := by
  rcases h with rfl | rfl | rfl | rfl | rfl | rfl <;> rfl

theorem puts_none (op : Int) (h : isBin op = false) (h' : isUn op = false) (h4 : op ≠ 4) (h1 : ¬ (op = 1 ∨ op = 2 ∨ op = 32 ∨ op = 34 ∨ op = 35 ∨ op = 37)) : (opRow op).2.2.2 = 0 := by
  simp only [isBin, isUn, decide_eq_false_iff_not] at h h'
  refine opRow_of op (P := fun r => r.2.2.2 = 0) (fun _ => rfl) (fun k hk he => ?_)
  subst he
  have : ∀ k : Fin 39, ¬ (10 ≤ k.1 ∧ k.1 ≤ 29) → k.1 ≠ 4 → ¬ (k.1 = 1 ∨ k.1 = 2 ∨ k.1 = 32 ∨ k.1 = 34 ∨ k.1 = 35 ∨ k.1 = 37) → (opN k.1).2.2.2 = 0 := by decide
  exact this ⟨k, hk⟩ (by show ¬ (10 ≤ k ∧ k ≤ 29); omega) (by show k ≠ 4; omega) (by show ¬ (k = 1 ∨ k = 2 ∨ k = 32 ∨ k = 34 ∨ k = 35 ∨ k = 37); omega)

set_option maxHeartbeats 800000 in
theorem specPuts (op a : Int) (w : World) :
    Calls Tryz.prog 84 #[.agg #[.int .i64 op, .int .i64 a]] w fun e w' => e = .returned (.int .i64 (opRow op).2.2.2) ∧ Below w.heap.size w w' := by
  go_enter Tryz.func84, Tryz.ntmps84
  go_wp2_with fail
  refine (specBin op _).mono ?_
  rintro e w1 ⟨rfl, h⟩
  subst w1
  by_cases hB : isBin op = true
  · have hp := puts_bin op (.inl hB)
    rw [hB]
    go_wp2_with fail
    go_ret
    exact ⟨by rw [hp]; rfl, (Below.refl _ _).alloc (Nat.le_refl _) _⟩
  · have hB' : isBin op = false := by simpa using hB
    rw [hB']
    go_wp2_with fail
    refine (specUn op _).mono ?_
    rintro e w1 ⟨rfl, h⟩
    subst w1
    by_cases hU : isUn op = true
    · have hp := puts_bin op (.inr hU)
      rw [hU]
      go_wp2_with fail
      go_ret
      exact ⟨by rw [hp]; rfl, (Below.refl _ _).alloc (Nat.le_refl _) _⟩
    · have hU' : isUn op = false := by simpa using hU
      rw [hU']
      by_cases h4 : op = 4
      · subst h4
        go_wp2_with fail
        go_ret
        exact ⟨rfl, (Below.refl _ _).alloc (Nat.le_refl _) _⟩
      · by_cases h1 : op = 1 ∨ op = 2 ∨ op = 32 ∨ op = 34 ∨ op = 35 ∨ op = 37
        · have hp := puts_one op h1
          clear hB hU hB' hU' h4
          rcases h1 with rfl | rfl | rfl | rfl | rfl | rfl
          all_goals
            go_wp2_with fail
            go_ret
            exact ⟨rfl, (Below.refl _ _).alloc (Nat.le_refl _) _⟩
        · have Hp : Hid ((opRow op).2.2.2 = 0) := puts_none op hB' hU' h4 h1
          simp only [not_or] at h1
          obtain ⟨n1, n2, n3, n4, n5, n6⟩ := h1
          have e0 : (op == 4) = false := by simpa using h4
          have e1 : (op == 1) = false := by simpa using n1
          have e2 : (op == 2) = false := by simpa using n2
          have e3 : (op == 32) = false := by simpa using n3
          have e4 : (op == 34) = false := by simpa using n4
          have e5 : (op == 35) = false := by simpa using n5
          have e6 : (op == 37) = false := by simpa using n6
          go_wp2_with fail
          go_ret
          exact ⟨by rw [Hp.out]; rfl, (Below.refl _ _).alloc (Nat.le_refl _) _⟩

end Go.Proofs.YtijgonjnmibifaaGreatDoor
