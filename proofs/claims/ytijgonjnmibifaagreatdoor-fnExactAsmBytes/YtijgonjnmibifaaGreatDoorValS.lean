/- spec.l10Loc, l10Val, l10Some. -/
import Derived.Test.YtijgonjnmibifaaGreatDoorAsmP
namespace Go.Proofs.YtijgonjnmibifaaGreatDoor
open Go.RowKit

theorem specLoc (n : Int) (w : World) : Calls Tryz.prog 85 #[.int .i64 n] w fun e w' => e = .returned (.bool (locOk n)) ∧ w' = w := by
  by_cases h0 : 0 ≤ n
  · have e0 : decide (0 ≤ n) = true := by simpa using h0
    have HT : Hid (locOk n = decide (n < 22)) := by show locOk n = _; simp [locOk, inL, h0]
    go_enter Tryz.func85, Tryz.ntmps85
    go_wp2
    go_ret
    exact ⟨by rw [HT.out]; rfl, rfl⟩
  · have e0 : decide (0 ≤ n) = false := by simpa using h0
    have HT : Hid (locOk n = false) := by show locOk n = _; simp [locOk, inL, h0]
    go_enter Tryz.func85, Tryz.ntmps85
    go_wp2
    go_ret
    exact ⟨by rw [HT.out]; rfl, rfl⟩

set_option maxRecDepth 100000 in
theorem specVal (k n : Int) (w : World) : Calls Tryz.prog 52 #[.agg #[.int .i64 k, .int .i64 n]] w fun e w' => e = .returned (.bool (valOk (k, n))) ∧ Below w.heap.size w w' := by
  have Hb : Hid (∀ o, Below w.heap.size w (w.alloc o)) := fun o => (Below.refl _ _).alloc (Nat.le_refl _) _
  by_cases h0 : k = 0
  · subst h0
    go_enter Tryz.func52, Tryz.ntmps52
    go_wp2
    go_ret
    exact ⟨rfl, Hb.out _⟩
  by_cases h1 : k = 1
  · subst h1
    have HT : Hid (valOk (1, n) = locOk n) := by show valOk (1, n) = _; simp [valOk]
    go_enter Tryz.func52, Tryz.ntmps52
    go_wp2_with fail
    refine (specLoc n _).mono ?_
    rintro e w1 ⟨rfl, h⟩
    subst w1
    go_wp2_with fail
    go_ret
    exact ⟨by rw [HT.out]; rfl, Hb.out _⟩
  · have HT : Hid (valOk (k, n) = decide (k = 2)) := by show valOk (k, n) = _; simp [valOk, h0, h1]
    have e0 : (k == 0) = false := by simpa using h0
    have e1 : (k == 1) = false := by simpa using h1
    go_enter Tryz.func52, Tryz.ntmps52
    go_wp2
    go_ret
    exact ⟨by rw [HT.out]; rfl, Hb.out _⟩

theorem num_val (k n : Int) : numOk (k, n) = (valOk (k, n) && (k != 0)) := by
  unfold numOk valOk
  by_cases h0 : k = 0
  · subst h0; simp
  · simp [h0]

set_option maxRecDepth 100000 in
theorem specSome (k n : Int) (w : World) : Calls Tryz.prog 86 #[.agg #[.int .i64 k, .int .i64 n]] w fun e w' => e = .returned (.bool (numOk (k, n))) ∧ Below w.heap.size w w' := by
  have X0 : Hid (Box (w.alloc (.cells #[.int .i64 k, .int .i64 n] 62)) w.heap.size _) := box_new w #[.int .i64 k, .int .i64 n] 62
  have Hb : Hid (Below w.heap.size w (w.alloc (.cells #[.int .i64 k, .int .i64 n] 62))) := (Below.refl _ _).alloc (Nat.le_refl _) _
  have HN : Hid (numOk (k, n) = (valOk (k, n) && (k != 0))) := num_val k n
  go_enter Tryz.func86, Tryz.ntmps86
  go_wp2_with fail
  refine (specVal k n _).mono ?_
  rintro e w1 ⟨rfl, hb1⟩
  have Hb1 : Hid (Below w.heap.size w w1) := Hb.out.trans (hb1.mono Hb.out.size)
  have c0 := (X0.out.below hb1).at0
  have cz := (X0.out.below hb1).1
  clear hb1 X0
  by_cases hv : valOk (k, n) = true
  · have HT : Hid (numOk (k, n) = (k != 0)) := by show numOk (k, n) = _; rw [HN.out, hv, Bool.true_and]
    rw [hv]
    go_wp2_with fail
    go_ret
    exact ⟨by rw [HT.out]; rfl, Hb1.out⟩
  · rw [Bool.not_eq_true] at hv
    have HT : Hid (numOk (k, n) = false) := by show numOk (k, n) = _; rw [HN.out, hv, Bool.false_and]
    rw [hv]
    go_wp2_with fail
    go_ret
    exact ⟨by rw [HT.out]; rfl, Hb1.out⟩
end Go.Proofs.YtijgonjnmibifaaGreatDoor
