/- Ops of two numbers: that spec.Binary answers the plain function of Bin. -/
import Derived.Test.YtpcnnagcpckdlaaBin
namespace Go.Proofs.Ytpcnnagcpckdlaa
open Go.RowKit

theorem umod64 (b : Int) : (IntKind.u64.wrap b).tmod 64 = b % 64 := by
  rw [IntKind.wrap_u64, tmod_of_emod]; omega

set_option maxHeartbeats 400000 in
theorem overZero (op a : Int) (w : World) :
    Calls Try.prog 22 #[.int .i64 op, .int .i64 a, .int .i64 0] w fun e w' => e = .returned (.agg #[.int .i64 0, .int .i64 11]) ∧ Below w.heap.size w w' := by
  go_enter Try.func22, Try.ntmps22
  go_wp2
  exact bodyPost_ret (v := .agg #[.int .i64 0, .int .i64 11]) (by simp [results, Try.results22, go_sem]) rfl ⟨rfl, (Below.refl _ _).alloc (Nat.le_refl _) _⟩

set_option maxHeartbeats 400000 in
theorem overDiv (a b : Int) (w : World) (hb : ¬ b = 0) :
    Calls Try.prog 22 #[.int .i64 13, .int .i64 a, .int .i64 b] w fun e w' => e = .returned (.agg #[.int .i64 (wrap64 (a.tdiv b)), .int .i64 0]) ∧ Below w.heap.size w w' := by
  by_cases h1 : b = -1
  · subst h1
    rw [show a.tdiv (-1) = -a by rw [Int.tdiv_neg, Int.tdiv_one]]
    go_enter Try.func22, Try.ntmps22
    go_wp2
    exact bodyPost_ret (v := .agg #[.int .i64 (wrap64 (-a)), .int .i64 0]) (by simp [results, Try.results22, go_sem]) rfl ⟨rfl, (Below.refl _ _).alloc (Nat.le_refl _) _⟩
  · go_enter Try.func22, Try.ntmps22
    go_wp2
    exact bodyPost_ret (v := .agg #[.int .i64 (wrap64 (a.tdiv b)), .int .i64 0]) (by simp [results, Try.results22, go_sem]) rfl ⟨rfl, (Below.refl _ _).alloc (Nat.le_refl _) _⟩

set_option maxHeartbeats 400000 in
theorem overRem (a b : Int) (w : World) (hb : ¬ b = 0) :
    Calls Try.prog 22 #[.int .i64 14, .int .i64 a, .int .i64 b] w fun e w' => e = .returned (.agg #[.int .i64 (a.tmod b), .int .i64 0]) ∧ Below w.heap.size w w' := by
  by_cases h1 : b = -1
  · subst h1
    rw [show a.tmod (-1) = 0 by rw [Int.tmod_neg, Int.tmod_one]]
    go_enter Try.func22, Try.ntmps22
    go_wp2
    exact bodyPost_ret (v := .agg #[.int .i64 0, .int .i64 0]) (by simp [results, Try.results22, go_sem]) rfl ⟨rfl, (Below.refl _ _).alloc (Nat.le_refl _) _⟩
  · go_enter Try.func22, Try.ntmps22
    go_wp2
    exact bodyPost_ret (v := .agg #[.int .i64 (a.tmod b), .int .i64 0]) (by simp [results, Try.results22, go_sem]) rfl ⟨rfl, (Below.refl _ _).alloc (Nat.le_refl _) _⟩

/-- what lay before a call that lays blocks alone, and the cell of the answer -/
theorem answer_cell {w w1 : World} {n t : Int} {T : TypeId} (hb : Below (w.heap.size + 1) (w.alloc (.cells #[.int .i64 n, .int .i64 t] T)) w1) :
    (w1.cell? ⟨w.heap.size, 0, none⟩ = some (.int .i64 n) ∧ w1.cell? ⟨w.heap.size, 1, none⟩ = some (.int .i64 t)) ∧ (w1.frozen? ⟨w.heap.size, 0, none⟩ = false ∧ w1.frozen? ⟨w.heap.size, 1, none⟩ = false) ∧ w.heap.size < w1.heap.size := by
  refine ⟨⟨?_, ?_⟩, ⟨?_, ?_⟩, ?_⟩
  · rw [hb.cell (by simp)]; simp
  · rw [hb.cell (by simp)]; simp
  · rw [hb.frozen (by simp)]; simp
  · rw [hb.frozen (by simp)]; simp
  · have := hb.size; simp at this; omega

theorem answer_below {w w1 : World} {o : Obj} (hb : Below (w.heap.size + 1) (w.alloc o) w1) (x y : Value) : Below w.heap.size w ((w1.setCell ⟨w.heap.size, 0, none⟩ x).setCell ⟨w.heap.size, 1, none⟩ y) :=
  ((((Below.refl _ _).alloc (Nat.le_refl _) _).trans (hb.mono (by omega))).setCell (by simp) _).setCell (by simp) _

set_option maxHeartbeats 400000 in
theorem spec10 (a b : Int) (w : World) :
    Calls Try.prog 10 #[.int .i64 10, .int .i64 a, .int .i64 b] w fun e w' => e = .returned (.agg #[.int .i64 (binN 10 a b), .int .i64 (binT 10 b)]) ∧ Below w.heap.size w w' := by
  have h2 : binT 10 b = 0 := by unfold binT; rw [if_neg (by omega)]
  rw [h2]
  rw [binN_10]
  go_enter Try.func10, Try.ntmps10
  go_wp2
  exact bodyPost_ret (v := .agg #[.int .i64 (wrap64 (a + b)), .int .i64 0]) (by simp [results, Try.results10, go_sem]) rfl ⟨rfl, (Below.refl _ _).alloc (Nat.le_refl _) _⟩

set_option maxHeartbeats 400000 in
theorem spec11 (a b : Int) (w : World) :
    Calls Try.prog 10 #[.int .i64 11, .int .i64 a, .int .i64 b] w fun e w' => e = .returned (.agg #[.int .i64 (binN 11 a b), .int .i64 (binT 11 b)]) ∧ Below w.heap.size w w' := by
  have h2 : binT 11 b = 0 := by unfold binT; rw [if_neg (by omega)]
  rw [h2]
  rw [binN_11]
  go_enter Try.func10, Try.ntmps10
  go_wp2
  exact bodyPost_ret (v := .agg #[.int .i64 (wrap64 (a - b)), .int .i64 0]) (by simp [results, Try.results10, go_sem]) rfl ⟨rfl, (Below.refl _ _).alloc (Nat.le_refl _) _⟩

set_option maxHeartbeats 400000 in
theorem spec12 (a b : Int) (w : World) :
    Calls Try.prog 10 #[.int .i64 12, .int .i64 a, .int .i64 b] w fun e w' => e = .returned (.agg #[.int .i64 (binN 12 a b), .int .i64 (binT 12 b)]) ∧ Below w.heap.size w w' := by
  have h2 : binT 12 b = 0 := by unfold binT; rw [if_neg (by omega)]
  rw [h2]
  rw [binN_12]
  go_enter Try.func10, Try.ntmps10
  go_wp2
  exact bodyPost_ret (v := .agg #[.int .i64 (wrap64 (a * b)), .int .i64 0]) (by simp [results, Try.results10, go_sem]) rfl ⟨rfl, (Below.refl _ _).alloc (Nat.le_refl _) _⟩

set_option maxHeartbeats 400000 in
theorem spec13 (a b : Int) (w : World) :
    Calls Try.prog 10 #[.int .i64 13, .int .i64 a, .int .i64 b] w fun e w' => e = .returned (.agg #[.int .i64 (binN 13 a b), .int .i64 (binT 13 b)]) ∧ Below w.heap.size w w' := by
  by_cases hb : b = 0
  · subst hb
    rw [binN_13z]
    go_enter Try.func10, Try.ntmps10
    go_wp2_with fail
    refine (overZero 13 a _).mono ?_
    rintro e w1 ⟨rfl, hb1⟩
    simp at hb1
    have Hb1 : Hid (Below (w.heap.size + 1) _ w1) := hb1
    obtain ⟨⟨c0, c1⟩, ⟨f0, f1⟩, hz⟩ := answer_cell hb1
    clear hb1
    go_wp2_with fail
    exact bodyPost_ret (v := .agg #[.int .i64 0, .int .i64 11]) (by simp [results, Try.results10, go_sem, c0, c1]) rfl ⟨rfl, answer_below Hb1.out _ _⟩
  · have h2 : binT 13 b = 0 := by unfold binT; rw [if_neg (by omega)]
    rw [h2, binN_13 hb]
    go_enter Try.func10, Try.ntmps10
    go_wp2_with fail
    refine (overDiv a b _ hb).mono ?_
    rintro e w1 ⟨rfl, hb1⟩
    simp at hb1
    have Hb1 : Hid (Below (w.heap.size + 1) _ w1) := hb1
    obtain ⟨⟨c0, c1⟩, ⟨f0, f1⟩, hz⟩ := answer_cell hb1
    clear hb1
    go_wp2_with fail
    exact bodyPost_ret (v := .agg #[.int .i64 (wrap64 (a.tdiv b)), .int .i64 0]) (by simp [results, Try.results10, go_sem, c0, c1]) rfl ⟨rfl, answer_below Hb1.out _ _⟩

set_option maxHeartbeats 400000 in
theorem spec14 (a b : Int) (w : World) :
    Calls Try.prog 10 #[.int .i64 14, .int .i64 a, .int .i64 b] w fun e w' => e = .returned (.agg #[.int .i64 (binN 14 a b), .int .i64 (binT 14 b)]) ∧ Below w.heap.size w w' := by
  by_cases hb : b = 0
  · subst hb
    rw [binN_14z]
    go_enter Try.func10, Try.ntmps10
    go_wp2_with fail
    refine (overZero 14 a _).mono ?_
    rintro e w1 ⟨rfl, hb1⟩
    simp at hb1
    have Hb1 : Hid (Below (w.heap.size + 1) _ w1) := hb1
    obtain ⟨⟨c0, c1⟩, ⟨f0, f1⟩, hz⟩ := answer_cell hb1
    clear hb1
    go_wp2_with fail
    exact bodyPost_ret (v := .agg #[.int .i64 0, .int .i64 11]) (by simp [results, Try.results10, go_sem, c0, c1]) rfl ⟨rfl, answer_below Hb1.out _ _⟩
  · have h2 : binT 14 b = 0 := by unfold binT; rw [if_neg (by omega)]
    rw [h2, binN_14 hb]
    go_enter Try.func10, Try.ntmps10
    go_wp2_with fail
    refine (overRem a b _ hb).mono ?_
    rintro e w1 ⟨rfl, hb1⟩
    simp at hb1
    have Hb1 : Hid (Below (w.heap.size + 1) _ w1) := hb1
    obtain ⟨⟨c0, c1⟩, ⟨f0, f1⟩, hz⟩ := answer_cell hb1
    clear hb1
    go_wp2_with fail
    exact bodyPost_ret (v := .agg #[.int .i64 (a.tmod b), .int .i64 0]) (by simp [results, Try.results10, go_sem, c0, c1]) rfl ⟨rfl, answer_below Hb1.out _ _⟩

set_option maxHeartbeats 400000 in
theorem spec15 (a b : Int) (w : World) :
    Calls Try.prog 10 #[.int .i64 15, .int .i64 a, .int .i64 b] w fun e w' => e = .returned (.agg #[.int .i64 (binN 15 a b), .int .i64 (binT 15 b)]) ∧ Below w.heap.size w w' := by
  have h2 : binT 15 b = 0 := by unfold binT; rw [if_neg (by omega)]
  rw [h2]
  rw [binN_15]
  go_enter Try.func10, Try.ntmps10
  go_wp2
  exact bodyPost_ret (v := .agg #[.int .i64 (bits .and .i64 a b), .int .i64 0]) (by simp [results, Try.results10, go_sem]) rfl ⟨rfl, (Below.refl _ _).alloc (Nat.le_refl _) _⟩

set_option maxHeartbeats 400000 in
theorem spec16 (a b : Int) (w : World) :
    Calls Try.prog 10 #[.int .i64 16, .int .i64 a, .int .i64 b] w fun e w' => e = .returned (.agg #[.int .i64 (binN 16 a b), .int .i64 (binT 16 b)]) ∧ Below w.heap.size w w' := by
  have h2 : binT 16 b = 0 := by unfold binT; rw [if_neg (by omega)]
  rw [h2]
  rw [binN_16]
  go_enter Try.func10, Try.ntmps10
  go_wp2
  exact bodyPost_ret (v := .agg #[.int .i64 (bits .or .i64 a b), .int .i64 0]) (by simp [results, Try.results10, go_sem]) rfl ⟨rfl, (Below.refl _ _).alloc (Nat.le_refl _) _⟩

set_option maxHeartbeats 400000 in
theorem spec17 (a b : Int) (w : World) :
    Calls Try.prog 10 #[.int .i64 17, .int .i64 a, .int .i64 b] w fun e w' => e = .returned (.agg #[.int .i64 (binN 17 a b), .int .i64 (binT 17 b)]) ∧ Below w.heap.size w w' := by
  have h2 : binT 17 b = 0 := by unfold binT; rw [if_neg (by omega)]
  rw [h2]
  rw [binN_17]
  go_enter Try.func10, Try.ntmps10
  go_wp2
  exact bodyPost_ret (v := .agg #[.int .i64 (bits .xor .i64 a b), .int .i64 0]) (by simp [results, Try.results10, go_sem]) rfl ⟨rfl, (Below.refl _ _).alloc (Nat.le_refl _) _⟩

set_option maxHeartbeats 400000 in
theorem spec18 (a b : Int) (w : World) :
    Calls Try.prog 10 #[.int .i64 18, .int .i64 a, .int .i64 b] w fun e w' => e = .returned (.agg #[.int .i64 (binN 18 a b), .int .i64 (binT 18 b)]) ∧ Below w.heap.size w w' := by
  have h2 : binT 18 b = 0 := by unfold binT; rw [if_neg (by omega)]
  rw [h2]
  have Hu : Hid ((IntKind.u64.wrap b).tmod 64 = b % 64) := umod64 b
  have hu0 : 0 ≤ (IntKind.u64.wrap b).tmod 64 := by rw [Hu.out]; omega
  have hu1 : (IntKind.u64.wrap b).tmod 64 ≤ 63 := by rw [Hu.out]; omega
  rw [binN_18, ← Hu.out]
  go_enter Try.func10, Try.ntmps10
  go_wp2
  exact bodyPost_ret (v := .agg #[.int .i64 (wrap64 (a * 2 ^ ((IntKind.u64.wrap b).tmod 64).toNat)), .int .i64 0]) (by simp [results, Try.results10, go_sem]) rfl ⟨rfl, (Below.refl _ _).alloc (Nat.le_refl _) _⟩

set_option maxHeartbeats 400000 in
theorem spec19 (a b : Int) (w : World) :
    Calls Try.prog 10 #[.int .i64 19, .int .i64 a, .int .i64 b] w fun e w' => e = .returned (.agg #[.int .i64 (binN 19 a b), .int .i64 (binT 19 b)]) ∧ Below w.heap.size w w' := by
  have h2 : binT 19 b = 0 := by unfold binT; rw [if_neg (by omega)]
  rw [h2]
  have Hu : Hid ((IntKind.u64.wrap b).tmod 64 = b % 64) := umod64 b
  have hu0 : 0 ≤ (IntKind.u64.wrap b).tmod 64 := by rw [Hu.out]; omega
  have hu1 : (IntKind.u64.wrap b).tmod 64 ≤ 63 := by rw [Hu.out]; omega
  rw [binN_19, ← Hu.out]
  go_enter Try.func10, Try.ntmps10
  go_wp2
  exact bodyPost_ret (v := .agg #[.int .i64 (a / 2 ^ ((IntKind.u64.wrap b).tmod 64).toNat), .int .i64 0]) (by simp [results, Try.results10, go_sem]) rfl ⟨rfl, (Below.refl _ _).alloc (Nat.le_refl _) _⟩

set_option maxHeartbeats 400000 in
theorem spec20 (a b : Int) (w : World) :
    Calls Try.prog 10 #[.int .i64 20, .int .i64 a, .int .i64 b] w fun e w' => e = .returned (.agg #[.int .i64 (binN 20 a b), .int .i64 (binT 20 b)]) ∧ Below w.heap.size w w' := by
  have h2 : binT 20 b = 0 := by unfold binT; rw [if_neg (by omega)]
  rw [h2]
  have Hu : Hid ((IntKind.u64.wrap b).tmod 64 = b % 64) := umod64 b
  have hu0 : 0 ≤ (IntKind.u64.wrap b).tmod 64 := by rw [Hu.out]; omega
  have hu1 : (IntKind.u64.wrap b).tmod 64 ≤ 63 := by rw [Hu.out]; omega
  rw [binN_20, ← Hu.out]
  go_enter Try.func10, Try.ntmps10
  go_wp2
  exact bodyPost_ret (v := .agg #[.int .i64 (wrap64 (IntKind.u64.wrap a / 2 ^ ((IntKind.u64.wrap b).tmod 64).toNat)), .int .i64 0]) (by simp [results, Try.results10, go_sem]) rfl ⟨rfl, (Below.refl _ _).alloc (Nat.le_refl _) _⟩

set_option maxHeartbeats 400000 in
theorem spec21 (a b : Int) (w : World) :
    Calls Try.prog 10 #[.int .i64 21, .int .i64 a, .int .i64 b] w fun e w' => e = .returned (.agg #[.int .i64 (binN 21 a b), .int .i64 (binT 21 b)]) ∧ Below w.heap.size w w' := by
  have h2 : binT 21 b = 0 := by unfold binT; rw [if_neg (by omega)]
  rw [h2]
  rw [binN_21]
  by_cases h : a < b
  · rw [if_pos h]
    go_enter Try.func10, Try.ntmps10
    go_wp2
    exact bodyPost_ret (v := .agg #[.int .i64 1, .int .i64 0]) (by simp [results, Try.results10, go_sem]) rfl ⟨rfl, (Below.refl _ _).alloc (Nat.le_refl _) _⟩
  · rw [if_neg h]
    go_enter Try.func10, Try.ntmps10
    go_wp2
    exact bodyPost_ret (v := .agg #[.int .i64 0, .int .i64 0]) (by simp [results, Try.results10, go_sem]) rfl ⟨rfl, (Below.refl _ _).alloc (Nat.le_refl _) _⟩

set_option maxHeartbeats 400000 in
theorem spec22 (a b : Int) (w : World) :
    Calls Try.prog 10 #[.int .i64 22, .int .i64 a, .int .i64 b] w fun e w' => e = .returned (.agg #[.int .i64 (binN 22 a b), .int .i64 (binT 22 b)]) ∧ Below w.heap.size w w' := by
  have h2 : binT 22 b = 0 := by unfold binT; rw [if_neg (by omega)]
  rw [h2]
  rw [binN_22]
  by_cases h : a ≤ b
  · rw [if_pos h]
    go_enter Try.func10, Try.ntmps10
    go_wp2
    exact bodyPost_ret (v := .agg #[.int .i64 1, .int .i64 0]) (by simp [results, Try.results10, go_sem]) rfl ⟨rfl, (Below.refl _ _).alloc (Nat.le_refl _) _⟩
  · rw [if_neg h]
    go_enter Try.func10, Try.ntmps10
    go_wp2
    exact bodyPost_ret (v := .agg #[.int .i64 0, .int .i64 0]) (by simp [results, Try.results10, go_sem]) rfl ⟨rfl, (Below.refl _ _).alloc (Nat.le_refl _) _⟩

set_option maxHeartbeats 400000 in
theorem spec23 (a b : Int) (w : World) :
    Calls Try.prog 10 #[.int .i64 23, .int .i64 a, .int .i64 b] w fun e w' => e = .returned (.agg #[.int .i64 (binN 23 a b), .int .i64 (binT 23 b)]) ∧ Below w.heap.size w w' := by
  have h2 : binT 23 b = 0 := by unfold binT; rw [if_neg (by omega)]
  rw [h2]
  rw [binN_23]
  by_cases h : a = b
  · rw [if_pos h]
    go_enter Try.func10, Try.ntmps10
    go_wp2
    exact bodyPost_ret (v := .agg #[.int .i64 1, .int .i64 0]) (by simp [results, Try.results10, go_sem]) rfl ⟨rfl, (Below.refl _ _).alloc (Nat.le_refl _) _⟩
  · rw [if_neg h]
    go_enter Try.func10, Try.ntmps10
    go_wp2
    exact bodyPost_ret (v := .agg #[.int .i64 0, .int .i64 0]) (by simp [results, Try.results10, go_sem]) rfl ⟨rfl, (Below.refl _ _).alloc (Nat.le_refl _) _⟩

set_option maxHeartbeats 400000 in
theorem specOut (op a b : Int) (w : World) (h : op < 10 ∨ 23 < op) :
    Calls Try.prog 10 #[.int .i64 op, .int .i64 a, .int .i64 b] w fun e w' => e = .returned (.agg #[.int .i64 0, .int .i64 0]) ∧ Below w.heap.size w w' := by
  go_enter Try.func10, Try.ntmps10
  go_wp2
  exact bodyPost_ret (v := .agg #[.int .i64 0, .int .i64 0]) (by simp [results, Try.results10, go_sem]) rfl ⟨rfl, (Below.refl _ _).alloc (Nat.le_refl _) _⟩

/-- spec.Binary -/
theorem specBinary (op a b : Int) (w : World) :
    Calls Try.prog 10 #[.int .i64 op, .int .i64 a, .int .i64 b] w fun e w' => e = .returned (.agg #[.int .i64 (binN op a b), .int .i64 (binT op b)]) ∧ Below w.heap.size w w' := by
  have hop : (op < 10 ∨ 23 < op) ∨ op = 10 ∨ op = 11 ∨ op = 12 ∨ op = 13 ∨ op = 14 ∨ op = 15 ∨ op = 16 ∨ op = 17 ∨ op = 18 ∨ op = 19 ∨ op = 20 ∨ op = 21 ∨ op = 22 ∨ op = 23 := by omega
  rcases hop with h | rfl | rfl | rfl | rfl | rfl | rfl | rfl | rfl | rfl | rfl | rfl | rfl | rfl | rfl
  · have h1 : binN op a b = 0 := binN_out a b h
    have h2 : binT op b = 0 := by unfold binT; rw [if_neg (by omega)]
    rw [h1, h2]
    exact specOut op a b w h
  · exact spec10 a b w
  · exact spec11 a b w
  · exact spec12 a b w
  · exact spec13 a b w
  · exact spec14 a b w
  · exact spec15 a b w
  · exact spec16 a b w
  · exact spec17 a b w
  · exact spec18 a b w
  · exact spec19 a b w
  · exact spec20 a b w
  · exact spec21 a b w
  · exact spec22 a b w
  · exact spec23 a b w
end Go.Proofs.Ytpcnnagcpckdlaa
