/- impl.spotOf, countsOf, countRight, right, spotOrder, guessOf: of plain numbers. -/
import Derived.Test.YtjifpeiilcneeaaDoorSeenP
import Derived.Laws.StructEq
import Derived.Deep.LoopGhost
namespace Go.Proofs.YtjifpeiilcneeaaDoor
open Go.RowKit

theorem implSpotOf (a b c d : Int) (w : World) :
    Calls Tryd.prog 23 #[.agg #[.int .i64 a, .int .i64 b, .int .i64 c, .int .i64 d]] w fun e w' => e = .returned (.agg #[.int .i64 a, .int .i64 b]) ∧ Below w.heap.size w w' := by
  go_enter Tryd.func23, Tryd.ntmps23
  go_wp2
  exact bodyPost_ret (v := .agg #[.int .i64 a, .int .i64 b]) (by simp [results, Tryd.results23, go_sem]) rfl ⟨rfl, ((Below.refl _ _).alloc (Nat.le_refl _) _).alloc (by simp) _⟩

theorem implCountsOf (a b c d : Int) (w : World) :
    Calls Tryd.prog 24 #[.agg #[.int .i64 a, .int .i64 b, .int .i64 c, .int .i64 d]] w fun e w' => e = .returned (.agg #[.int .i64 c, .int .i64 d]) ∧ Below w.heap.size w w' := by
  go_enter Tryd.func24, Tryd.ntmps24
  go_wp2
  exact bodyPost_ret (v := .agg #[.int .i64 c, .int .i64 d]) (by simp [results, Tryd.results24, go_sem]) rfl ⟨rfl, ((Below.refl _ _).alloc (Nat.le_refl _) _).alloc (by simp) _⟩

theorem implCountRight (n : Int) (w : World) :
    Calls Tryd.prog 35 #[.int .i64 n] w fun e w' => e = .returned (.bool (decide (0 ≤ n ∧ n ≤ 1000000))) ∧ w' = w := by
  obtain ⟨b, Hb⟩ : ∃ b, Hid (b = decide (0 ≤ n ∧ n ≤ 1000000)) := ⟨_, rfl⟩
  rw [← Hb.out]
  by_cases h0 : 0 ≤ n
  · by_cases h1 : n ≤ 1000000
    · go_enter Tryd.func35, Tryd.ntmps35
      go_wp2
      go_ret
      exact ⟨by rw [Hb.out]; simp [h0, h1], rfl⟩
    · go_enter Tryd.func35, Tryd.ntmps35
      go_wp2
      go_ret
      exact ⟨by rw [Hb.out]; simp [h1], rfl⟩
  · go_enter Tryd.func35, Tryd.ntmps35
    go_wp2
    go_ret
    exact ⟨by rw [Hb.out, decide_eq_false (by omega)]; rfl, rfl⟩

theorem eqCounts (a b c d : Int) (w : World) : (Op.equalIn 10000 56 (.agg #[.int .i64 a, .int .i64 b]) (.agg #[.int .i64 c, .int .i64 d])).run Tryd.prog w = .ok (a == c && b == d) w := by
  have u3 := Tryd.underlying2
  have a3 := Tryd.isAgg2
  have z3 := Tryd.sizeOf2
  have hS : Tryd.prog.underlying 56 = some (.struct (Tryd.prog.fieldsOf 56)) := by kernel_rfl
  have hp : Tryd.prog.stoodInHeld 56 = false := by kernel_rfl
  rw [show (10000 : Nat) = 9999 + 1 from rfl, run_equalIn_agg w 9999 56 _ _ hS hp]
  simp only [Program.fieldsOf, Tryd.underlying56]
  go_simp
  by_cases h1 : a = c <;> by_cases h2 : b = d <;> simp [h1, h2]

theorem eqSpotIn (a b c d : Int) (w : World) : (Op.equalIn 10000 59 (.agg #[.int .i64 a, .int .i64 b]) (.agg #[.int .i64 c, .int .i64 d])).run Tryd.prog w = .ok (a == c && b == d) w := by
  have u3 := Tryd.underlying2
  have a3 := Tryd.isAgg2
  have z3 := Tryd.sizeOf2
  have hS : Tryd.prog.underlying 59 = some (.struct (Tryd.prog.fieldsOf 59)) := by kernel_rfl
  have hp : Tryd.prog.stoodInHeld 59 = false := by kernel_rfl
  rw [show (10000 : Nat) = 9999 + 1 from rfl, run_equalIn_agg w 9999 59 _ _ hS hp]
  simp only [Program.fieldsOf, Tryd.underlying59]
  go_simp
  by_cases h1 : a = c <;> by_cases h2 : b = d <;> simp [h1, h2]

/-- counts that may stand in a profile -/
theorem implCntRight (a b : Int) (w : World) :
    Calls Tryd.prog 25 #[.agg #[.int .i64 a, .int .i64 b]] w fun e w' => e = .returned (.bool (decide ((0 ≤ a ∧ a ≤ 1000000) ∧ (0 ≤ b ∧ b ≤ 1000000) ∧ ¬ (a = 0 ∧ b = 0)))) ∧ Below w.heap.size w w' := by
  obtain ⟨r, Hr⟩ : ∃ r, Hid (r = decide ((0 ≤ a ∧ a ≤ 1000000) ∧ (0 ≤ b ∧ b ≤ 1000000) ∧ ¬ (a = 0 ∧ b = 0))) := ⟨_, rfl⟩
  rw [← Hr.out]
  have heq := eqCounts a b 0 0
  obtain ⟨ba, hba⟩ : ∃ ba, ba = decide (0 ≤ a ∧ a ≤ 1000000) := ⟨_, rfl⟩
  obtain ⟨bb, hbb⟩ : ∃ bb, bb = decide (0 ≤ b ∧ b ≤ 1000000) := ⟨_, rfl⟩
  obtain ⟨bz, hbz⟩ : ∃ bz, bz = (a == 0 && b == 0) := ⟨_, rfl⟩
  have HR : Hid (r = (ba && bb && !bz)) := by
    show r = _
    rw [Hr.out, hba, hbb, hbz]
    by_cases h1 : (0 ≤ a ∧ a ≤ 1000000) <;> by_cases h2 : (0 ≤ b ∧ b ≤ 1000000) <;> by_cases h3 : a = 0 <;> by_cases h4 : b = 0 <;> simp [h1, h2, h3, h4]
  rw [← hbz] at heq
  have Hca : Hid (∀ W, Calls Tryd.prog 35 #[.int .i64 a] W fun e w' => e = .returned (.bool ba) ∧ w' = W) := fun W => by rw [hba]; exact implCountRight a W
  have Hcb : Hid (∀ W, Calls Tryd.prog 35 #[.int .i64 b] W fun e w' => e = .returned (.bool bb) ∧ w' = W) := fun W => by rw [hbb]; exact implCountRight b W
  clear hba hbb hbz Hr
  go_enter Tryd.func25, Tryd.ntmps25
  go_wp2_with fail
  refine (Hca.out _).mono ?_
  rintro e w1 ⟨rfl, h⟩
  subst w1
  cases ba with
  | false =>
    go_wp2_with fail
    go_ret
    exact ⟨by rw [Hid.out HR]; rfl, (Below.refl _ _).alloc (Nat.le_refl _) _⟩
  | true =>
    go_wp2_with fail
    refine (Hcb.out _).mono ?_
    rintro e w1 ⟨rfl, h⟩
    subst w1
    cases bb with
    | false =>
      go_wp2_with fail
      go_ret
      exact ⟨by rw [Hid.out HR]; rfl, (Below.refl _ _).alloc (Nat.le_refl _) _⟩
    | true =>
      go_wp2_with fail
      go_ret
      exact ⟨by rw [Hid.out HR]; cases bz <;> rfl, by first | exact (Below.refl _ _).alloc (Nat.le_refl _) _ | exact ((Below.refl _ _).alloc (Nat.le_refl _) _).alloc (by simp) _⟩

theorem isNaN64 (x : Int) (w : World) : Calls Tryd.prog 45 #[.int .i64 x] w fun e w' => e = .returned (.bool false) ∧ w' = w := by
  go_enter Tryd.func45, Tryd.ntmps45
  go_wp2
  go_ret
  exact ⟨by simp, rfl⟩

def cmp64 (x y : Int) : Int := if x < y then -1 else if y < x then 1 else 0

theorem compare64 (x y : Int) (w : World) : Calls Tryd.prog 37 #[.int .i64 x, .int .i64 y] w fun e w' => e = .returned (.int .i64 (cmp64 x y)) ∧ w' = w := by
  obtain ⟨r, Hr⟩ : ∃ r, Hid (r = cmp64 x y) := ⟨_, rfl⟩
  rw [← Hr.out]
  go_enter Tryd.func37, Tryd.ntmps37
  go_wp2_with fail
  refine (isNaN64 _ _).mono ?_
  rintro e w1 ⟨rfl, h⟩
  subst w1
  go_wp2_with fail
  refine (isNaN64 _ _).mono ?_
  rintro e w1 ⟨rfl, h⟩
  subst w1
  by_cases h1 : x < y
  · go_wp2_with fail
    go_ret
    exact ⟨by rw [Hr.out]; simp [cmp64, h1], rfl⟩
  · by_cases h2 : y < x
    · go_wp2_with fail
      go_ret
      exact ⟨by rw [Hr.out]; simp [cmp64, h1, h2], rfl⟩
    · go_wp2_with fail
      go_ret
      exact ⟨by rw [Hr.out]; unfold cmp64; rw [if_neg (by omega), if_neg (by omega)]; rfl, rfl⟩

/-- the first that is not 0, of two -/
def orS (x y : Int) : Int := if x = 0 then y else x

theorem or64 (x y : Int) (b : Nat) (w : World) (hb : b < w.heap.size) (c0 : w.cell? ⟨b, 0, none⟩ = some (.int .i64 x)) (c1 : w.cell? ⟨b, 1, none⟩ = some (.int .i64 y)) :
    Calls Tryd.prog 36 #[.slice (some ⟨b, 0, none⟩) 2 2] w fun e w' => e = .returned (.int .i64 (orS x y)) ∧ w' = w := by
  obtain ⟨r, Hr⟩ : ∃ r, Hid (r = orS x y) := ⟨_, rfl⟩
  rw [← Hr.out]
  go_enter Tryd.func36, Tryd.ntmps36
  go_wp2_with fail
  go_loopw [8] (fun i wr => ∃ k : Nat, k ≤ 2 ∧ i = .int .i64 k ∧ wr = w ∧ (0 < k → x = 0) ∧ (1 < k → y = 0)) (fun i _ => 2 - (intOf i).toNat)
  case atStart => exact ⟨0, by omega, rfl, rfl, by omega, by omega⟩
  case round =>
    obtain ⟨k, hk, rfl, hw, hx, hy⟩ := hrel
    subst hw
    have H : Hid ((0 < k → x = 0) ∧ (1 < k → y = 0)) := ⟨hx, hy⟩
    clear hx hy
    rcases (show k = 0 ∨ k = 1 ∨ k = 2 by omega) with rfl | rfl | rfl
    · by_cases h0 : x = 0
      · subst h0
        go_wp2_with fail
        go_roundw
        case rel => exact ⟨1, by omega, by go_num, trivial, by simp, by omega⟩
        case measure => simp [intOf]
      · have h0' : (x != 0) = true := by simpa using h0
        go_wp2_with fail
        go_ret
        exact ⟨by rw [Hr.out]; simp [orS, h0], rfl⟩
    · have hx := H.out.1 (by omega)
      subst hx
      by_cases h0 : y = 0
      · subst h0
        go_wp2_with fail
        go_roundw
        case rel => exact ⟨2, by omega, by go_num, trivial, by simp, by simp⟩
        case measure => simp [intOf]
      · have h0' : (y != 0) = true := by simpa using h0
        go_wp2_with fail
        go_ret
        exact ⟨by rw [Hr.out]; simp [orS], rfl⟩
    · have hx := H.out.1 (by omega)
      have hy := H.out.2 (by omega)
      subst hx hy
      go_wp2_with fail
      go_ret
      exact ⟨by rw [Hr.out]; simp [orS], rfl⟩

theorem ordS_cmp (a b c d : Int) : orS (cmp64 a c) (cmp64 b d) = ordS (a, b) (c, d) := by
  unfold orS cmp64 ordS
  simp only
  by_cases h1 : a < c
  · simp [h1]
  · by_cases h2 : c < a
    · simp [h1, h2]
    · simp [h1, h2]

theorem third_laid (w : World) (o o' : Obj) (x y : Value) (t : TypeId) : w.heap.size + 1 + 1 < (((w.alloc o).alloc o').alloc (.cells #[x, y] t)).drew.heap.size ∧ (((w.alloc o).alloc o').alloc (.cells #[x, y] t)).drew.cell? ⟨w.heap.size + 1 + 1, 0, none⟩ = some x ∧ (((w.alloc o).alloc o').alloc (.cells #[x, y] t)).drew.cell? ⟨w.heap.size + 1 + 1, 1, none⟩ = some y := by
  have h := box_new ((w.alloc o).alloc o') #[x, y] t
  have hs : ((w.alloc o).alloc o').heap.size = w.heap.size + 1 + 1 := by simp
  rw [hs] at h
  exact ⟨h.1, h.at0, h.at1⟩

end Go.Proofs.YtjifpeiilcneeaaDoor
