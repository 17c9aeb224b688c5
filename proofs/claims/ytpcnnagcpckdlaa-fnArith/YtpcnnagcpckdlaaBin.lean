/- Ops of two numbers: what impl.Binary and spec.Binary answer, as one plain function, and that both calls answer just that. -/
import Derived.Test.YtpcnnagcpckdlaaMapLit
import Derived.Test.YtpcnnagcpckdlaaBits
import Derived.Below
import Derived.Laws.Bits64
import Derived.Laws.BitsAllLaws
import Derived.Laws.EntriesVeiled
namespace Go.Proofs.Ytpcnnagcpckdlaa
open Go.RowKit

/-- the number that both answer -/
def binN (op a b : Int) : Int :=
  if op = 10 then (wrap64 (a + b)) else
  if op = 11 then (wrap64 (a - b)) else
  if op = 12 then (wrap64 (a * b)) else
  if op = 13 then ((if b = 0 then 0 else wrap64 (a.tdiv b))) else
  if op = 14 then ((if b = 0 then 0 else a.tmod b)) else
  if op = 15 then (bits .and .i64 a b) else
  if op = 16 then (bits .or .i64 a b) else
  if op = 17 then (bits .xor .i64 a b) else
  if op = 18 then (wrap64 (a * 2 ^ (b % 64).toNat)) else
  if op = 19 then (a / 2 ^ (b % 64).toNat) else
  if op = 20 then (wrap64 (IntKind.u64.wrap a / 2 ^ (b % 64).toNat)) else
  if op = 21 then (if a < b then 1 else 0) else
  if op = 22 then (if a ≤ b then 1 else 0) else
  if op = 23 then (if a = b then 1 else 0) else
  0
/-- the trap -/
def binT (op b : Int) : Int := if b = 0 ∧ (op = 13 ∨ op = 14) then 11 else 0

theorem binN_10 (a b : Int) : binN 10 a b = wrap64 (a + b) := rfl
theorem binN_11 (a b : Int) : binN 11 a b = wrap64 (a - b) := rfl
theorem binN_12 (a b : Int) : binN 12 a b = wrap64 (a * b) := rfl
theorem binN_13 {a b : Int} (h : ¬ b = 0) : binN 13 a b = wrap64 (a.tdiv b) := by simp [binN, h]
theorem binN_13z (a : Int) : binN 13 a 0 = 0 := by simp [binN]
theorem binN_14 {a b : Int} (h : ¬ b = 0) : binN 14 a b = a.tmod b := by simp [binN, h]
theorem binN_14z (a : Int) : binN 14 a 0 = 0 := by simp [binN]
theorem binN_15 (a b : Int) : binN 15 a b = bits .and .i64 a b := rfl
theorem binN_16 (a b : Int) : binN 16 a b = bits .or .i64 a b := rfl
theorem binN_17 (a b : Int) : binN 17 a b = bits .xor .i64 a b := rfl
theorem binN_18 (a b : Int) : binN 18 a b = wrap64 (a * 2 ^ (b % 64).toNat) := rfl
theorem binN_19 (a b : Int) : binN 19 a b = a / 2 ^ (b % 64).toNat := rfl
theorem binN_20 (a b : Int) : binN 20 a b = wrap64 (IntKind.u64.wrap a / 2 ^ (b % 64).toNat) := rfl
theorem binN_21 (a b : Int) : binN 21 a b = if a < b then 1 else 0 := rfl
theorem binN_22 (a b : Int) : binN 22 a b = if a ≤ b then 1 else 0 := rfl
theorem binN_23 (a b : Int) : binN 23 a b = if a = b then 1 else 0 := rfl
theorem binN_out {op : Int} (a b : Int) (h : op < 10 ∨ 23 < op) : binN op a b = 0 := by
  unfold binN
  rw [if_neg (show ¬ op = 10 by omega)]
  rw [if_neg (show ¬ op = 11 by omega)]
  rw [if_neg (show ¬ op = 12 by omega)]
  rw [if_neg (show ¬ op = 13 by omega)]
  rw [if_neg (show ¬ op = 14 by omega)]
  rw [if_neg (show ¬ op = 15 by omega)]
  rw [if_neg (show ¬ op = 16 by omega)]
  rw [if_neg (show ¬ op = 17 by omega)]
  rw [if_neg (show ¬ op = 18 by omega)]
  rw [if_neg (show ¬ op = 19 by omega)]
  rw [if_neg (show ¬ op = 20 by omega)]
  rw [if_neg (show ¬ op = 21 by omega)]
  rw [if_neg (show ¬ op = 22 by omega)]
  rw [if_neg (show ¬ op = 23 by omega)]

theorem and63_bd (b : Int) : 0 ≤ bits .and .i64 b 63 ∧ bits .and .i64 b 63 ≤ 63 := by
  rw [and63]; omega

theorem bin10 (a b : Int) (w : World) :
    Calls Try.prog 26 #[.int .i64 a, .int .i64 b] w fun e w' => e = .returned (.int .i64 (binN 10 a b)) ∧ w' = w := by
  rw [binN_10]
  go_enter Try.func26, Try.ntmps26
  go_wp2
  go_ret
  exact ⟨rfl, rfl⟩

theorem bin11 (a b : Int) (w : World) :
    Calls Try.prog 27 #[.int .i64 a, .int .i64 b] w fun e w' => e = .returned (.int .i64 (binN 11 a b)) ∧ w' = w := by
  rw [binN_11]
  go_enter Try.func27, Try.ntmps27
  go_wp2
  go_ret
  exact ⟨rfl, rfl⟩

theorem bin12 (a b : Int) (w : World) :
    Calls Try.prog 28 #[.int .i64 a, .int .i64 b] w fun e w' => e = .returned (.int .i64 (binN 12 a b)) ∧ w' = w := by
  rw [binN_12]
  go_enter Try.func28, Try.ntmps28
  go_wp2
  go_ret
  exact ⟨rfl, rfl⟩

theorem bin13 (a b : Int) (hb0 : ¬ b = 0) (w : World) :
    Calls Try.prog 29 #[.int .i64 a, .int .i64 b] w fun e w' => e = .returned (.int .i64 (binN 13 a b)) ∧ w' = w := by
  rw [binN_13 hb0]
  go_enter Try.func29, Try.ntmps29
  go_wp2
  go_ret
  exact ⟨rfl, rfl⟩

theorem bin14 (a b : Int) (hb0 : ¬ b = 0) (w : World) :
    Calls Try.prog 30 #[.int .i64 a, .int .i64 b] w fun e w' => e = .returned (.int .i64 (binN 14 a b)) ∧ w' = w := by
  rw [binN_14 hb0]
  go_enter Try.func30, Try.ntmps30
  go_wp2
  go_ret
  exact ⟨rfl, rfl⟩

theorem bin15 (a b : Int) (w : World) :
    Calls Try.prog 31 #[.int .i64 a, .int .i64 b] w fun e w' => e = .returned (.int .i64 (binN 15 a b)) ∧ w' = w := by
  rw [binN_15]
  go_enter Try.func31, Try.ntmps31
  go_wp2
  go_ret
  exact ⟨rfl, rfl⟩

theorem bin16 (a b : Int) (w : World) :
    Calls Try.prog 32 #[.int .i64 a, .int .i64 b] w fun e w' => e = .returned (.int .i64 (binN 16 a b)) ∧ w' = w := by
  rw [binN_16]
  go_enter Try.func32, Try.ntmps32
  go_wp2
  go_ret
  exact ⟨rfl, rfl⟩

theorem bin17 (a b : Int) (w : World) :
    Calls Try.prog 33 #[.int .i64 a, .int .i64 b] w fun e w' => e = .returned (.int .i64 (binN 17 a b)) ∧ w' = w := by
  rw [binN_17]
  go_enter Try.func33, Try.ntmps33
  go_wp2
  go_ret
  exact ⟨rfl, rfl⟩

theorem bin18 (a b : Int) (w : World) :
    Calls Try.prog 34 #[.int .i64 a, .int .i64 b] w fun e w' => e = .returned (.int .i64 (binN 18 a b)) ∧ w' = w := by
  rw [binN_18, ← and63]
  obtain ⟨h0, h1⟩ := and63_bd b
  go_enter Try.func34, Try.ntmps34
  go_wp2
  go_ret
  exact ⟨rfl, rfl⟩

theorem bin19 (a b : Int) (w : World) :
    Calls Try.prog 35 #[.int .i64 a, .int .i64 b] w fun e w' => e = .returned (.int .i64 (binN 19 a b)) ∧ w' = w := by
  rw [binN_19, ← and63]
  obtain ⟨h0, h1⟩ := and63_bd b
  go_enter Try.func35, Try.ntmps35
  go_wp2
  go_ret
  exact ⟨rfl, rfl⟩

theorem bin20 (a b : Int) (w : World) :
    Calls Try.prog 36 #[.int .i64 a, .int .i64 b] w fun e w' => e = .returned (.int .i64 (binN 20 a b)) ∧ w' = w := by
  rw [binN_20, ← and63]
  obtain ⟨h0, h1⟩ := and63_bd b
  go_enter Try.func36, Try.ntmps36
  go_wp2
  go_ret
  exact ⟨rfl, rfl⟩

theorem bin21 (a b : Int) (w : World) :
    Calls Try.prog 37 #[.int .i64 a, .int .i64 b] w fun e w' => e = .returned (.int .i64 (binN 21 a b)) ∧ w' = w := by
  rw [binN_21]
  by_cases h : a < b
  · rw [if_pos h]
    go_enter Try.func37, Try.ntmps37
    go_wp2
    go_ret
    exact ⟨rfl, rfl⟩
  · rw [if_neg h]
    go_enter Try.func37, Try.ntmps37
    go_wp2
    go_ret
    exact ⟨rfl, rfl⟩

theorem bin22 (a b : Int) (w : World) :
    Calls Try.prog 39 #[.int .i64 a, .int .i64 b] w fun e w' => e = .returned (.int .i64 (binN 22 a b)) ∧ w' = w := by
  rw [binN_22]
  by_cases h : a ≤ b
  · rw [if_pos h]
    go_enter Try.func39, Try.ntmps39
    go_wp2
    go_ret
    exact ⟨rfl, rfl⟩
  · rw [if_neg h]
    go_enter Try.func39, Try.ntmps39
    go_wp2
    go_ret
    exact ⟨rfl, rfl⟩

theorem bin23 (a b : Int) (w : World) :
    Calls Try.prog 40 #[.int .i64 a, .int .i64 b] w fun e w' => e = .returned (.int .i64 (binN 23 a b)) ∧ w' = w := by
  rw [binN_23]
  by_cases h : a = b
  · rw [if_pos h]
    go_enter Try.func40, Try.ntmps40
    go_wp2
    go_ret
    exact ⟨rfl, rfl⟩
  · rw [if_neg h]
    go_enter Try.func40, Try.ntmps40
    go_wp2
    go_ret
    exact ⟨rfl, rfl⟩

/-- the table as it is laid -/
def binEs : Array MapEntry := #[⟨.int .i64 10, .agg #[.func (Fn.func 26) #[] #[], .int .i64 0], 0⟩,
   ⟨.int .i64 11, .agg #[.func (Fn.func 27) #[] #[], .int .i64 0], 1⟩,
   ⟨.int .i64 12, .agg #[.func (Fn.func 28) #[] #[], .int .i64 0], 2⟩,
   ⟨.int .i64 13, .agg #[.func (Fn.func 29) #[] #[], .int .i64 11], 3⟩,
   ⟨.int .i64 14, .agg #[.func (Fn.func 30) #[] #[], .int .i64 11], 4⟩,
   ⟨.int .i64 15, .agg #[.func (Fn.func 31) #[] #[], .int .i64 0], 5⟩,
   ⟨.int .i64 16, .agg #[.func (Fn.func 32) #[] #[], .int .i64 0], 6⟩,
   ⟨.int .i64 17, .agg #[.func (Fn.func 33) #[] #[], .int .i64 0], 7⟩,
   ⟨.int .i64 18, .agg #[.func (Fn.func 34) #[] #[], .int .i64 0], 8⟩,
   ⟨.int .i64 19, .agg #[.func (Fn.func 35) #[] #[], .int .i64 0], 9⟩,
   ⟨.int .i64 20, .agg #[.func (Fn.func 36) #[] #[], .int .i64 0], 10⟩,
   ⟨.int .i64 21, .agg #[.func (Fn.func 37) #[] #[], .int .i64 0], 11⟩,
   ⟨.int .i64 22, .agg #[.func (Fn.func 39) #[] #[], .int .i64 0], 12⟩,
   ⟨.int .i64 23, .agg #[.func (Fn.func 40) #[] #[], .int .i64 0], 13⟩]

set_option maxHeartbeats 400000 in
theorem binOps (w : World) :
    Calls Try.prog 21 #[] w fun e w' => e = .returned (.map (some w.heap.size)) ∧ w' = w.alloc (.map binEs 14) := by
  have hmm := @run_makeMap Try.prog
  have up0 := fun (w : World) (v : Value) => run_insert_new (P := Try.prog) 46 2 44 Try.underlying46 Try.underlying2 w #[] 0 (10) v rfl
  have up1 := fun (w : World) (v0 v : Value) => run_insert_new (P := Try.prog) 46 2 44 Try.underlying46 Try.underlying2 w #[⟨.int .i64 (10), v0, 0⟩] 1 (11) v rfl
  have up2 := fun (w : World) (v0 v1 v : Value) => run_insert_new (P := Try.prog) 46 2 44 Try.underlying46 Try.underlying2 w #[⟨.int .i64 (10), v0, 0⟩, ⟨.int .i64 (11), v1, 1⟩] 2 (12) v rfl
  have up3 := fun (w : World) (v0 v1 v2 v : Value) => run_insert_new (P := Try.prog) 46 2 44 Try.underlying46 Try.underlying2 w #[⟨.int .i64 (10), v0, 0⟩, ⟨.int .i64 (11), v1, 1⟩, ⟨.int .i64 (12), v2, 2⟩] 3 (13) v rfl
  have up4 := fun (w : World) (v0 v1 v2 v3 v : Value) => run_insert_new (P := Try.prog) 46 2 44 Try.underlying46 Try.underlying2 w #[⟨.int .i64 (10), v0, 0⟩, ⟨.int .i64 (11), v1, 1⟩, ⟨.int .i64 (12), v2, 2⟩, ⟨.int .i64 (13), v3, 3⟩] 4 (14) v rfl
  have up5 := fun (w : World) (v0 v1 v2 v3 v4 v : Value) => run_insert_new (P := Try.prog) 46 2 44 Try.underlying46 Try.underlying2 w #[⟨.int .i64 (10), v0, 0⟩, ⟨.int .i64 (11), v1, 1⟩, ⟨.int .i64 (12), v2, 2⟩, ⟨.int .i64 (13), v3, 3⟩, ⟨.int .i64 (14), v4, 4⟩] 5 (15) v rfl
  have up6 := fun (w : World) (v0 v1 v2 v3 v4 v5 v : Value) => run_insert_new (P := Try.prog) 46 2 44 Try.underlying46 Try.underlying2 w #[⟨.int .i64 (10), v0, 0⟩, ⟨.int .i64 (11), v1, 1⟩, ⟨.int .i64 (12), v2, 2⟩, ⟨.int .i64 (13), v3, 3⟩, ⟨.int .i64 (14), v4, 4⟩, ⟨.int .i64 (15), v5, 5⟩] 6 (16) v rfl
  have up7 := fun (w : World) (v0 v1 v2 v3 v4 v5 v6 v : Value) => run_insert_new (P := Try.prog) 46 2 44 Try.underlying46 Try.underlying2 w #[⟨.int .i64 (10), v0, 0⟩, ⟨.int .i64 (11), v1, 1⟩, ⟨.int .i64 (12), v2, 2⟩, ⟨.int .i64 (13), v3, 3⟩, ⟨.int .i64 (14), v4, 4⟩, ⟨.int .i64 (15), v5, 5⟩, ⟨.int .i64 (16), v6, 6⟩] 7 (17) v rfl
  have up8 := fun (w : World) (v0 v1 v2 v3 v4 v5 v6 v7 v : Value) => run_insert_new (P := Try.prog) 46 2 44 Try.underlying46 Try.underlying2 w #[⟨.int .i64 (10), v0, 0⟩, ⟨.int .i64 (11), v1, 1⟩, ⟨.int .i64 (12), v2, 2⟩, ⟨.int .i64 (13), v3, 3⟩, ⟨.int .i64 (14), v4, 4⟩, ⟨.int .i64 (15), v5, 5⟩, ⟨.int .i64 (16), v6, 6⟩, ⟨.int .i64 (17), v7, 7⟩] 8 (18) v rfl
  have up9 := fun (w : World) (v0 v1 v2 v3 v4 v5 v6 v7 v8 v : Value) => run_insert_new (P := Try.prog) 46 2 44 Try.underlying46 Try.underlying2 w #[⟨.int .i64 (10), v0, 0⟩, ⟨.int .i64 (11), v1, 1⟩, ⟨.int .i64 (12), v2, 2⟩, ⟨.int .i64 (13), v3, 3⟩, ⟨.int .i64 (14), v4, 4⟩, ⟨.int .i64 (15), v5, 5⟩, ⟨.int .i64 (16), v6, 6⟩, ⟨.int .i64 (17), v7, 7⟩, ⟨.int .i64 (18), v8, 8⟩] 9 (19) v rfl
  have up10 := fun (w : World) (v0 v1 v2 v3 v4 v5 v6 v7 v8 v9 v : Value) => run_insert_new (P := Try.prog) 46 2 44 Try.underlying46 Try.underlying2 w #[⟨.int .i64 (10), v0, 0⟩, ⟨.int .i64 (11), v1, 1⟩, ⟨.int .i64 (12), v2, 2⟩, ⟨.int .i64 (13), v3, 3⟩, ⟨.int .i64 (14), v4, 4⟩, ⟨.int .i64 (15), v5, 5⟩, ⟨.int .i64 (16), v6, 6⟩, ⟨.int .i64 (17), v7, 7⟩, ⟨.int .i64 (18), v8, 8⟩, ⟨.int .i64 (19), v9, 9⟩] 10 (20) v rfl
  have up11 := fun (w : World) (v0 v1 v2 v3 v4 v5 v6 v7 v8 v9 v10 v : Value) => run_insert_new (P := Try.prog) 46 2 44 Try.underlying46 Try.underlying2 w #[⟨.int .i64 (10), v0, 0⟩, ⟨.int .i64 (11), v1, 1⟩, ⟨.int .i64 (12), v2, 2⟩, ⟨.int .i64 (13), v3, 3⟩, ⟨.int .i64 (14), v4, 4⟩, ⟨.int .i64 (15), v5, 5⟩, ⟨.int .i64 (16), v6, 6⟩, ⟨.int .i64 (17), v7, 7⟩, ⟨.int .i64 (18), v8, 8⟩, ⟨.int .i64 (19), v9, 9⟩, ⟨.int .i64 (20), v10, 10⟩] 11 (21) v rfl
  have up12 := fun (w : World) (v0 v1 v2 v3 v4 v5 v6 v7 v8 v9 v10 v11 v : Value) => run_insert_new (P := Try.prog) 46 2 44 Try.underlying46 Try.underlying2 w #[⟨.int .i64 (10), v0, 0⟩, ⟨.int .i64 (11), v1, 1⟩, ⟨.int .i64 (12), v2, 2⟩, ⟨.int .i64 (13), v3, 3⟩, ⟨.int .i64 (14), v4, 4⟩, ⟨.int .i64 (15), v5, 5⟩, ⟨.int .i64 (16), v6, 6⟩, ⟨.int .i64 (17), v7, 7⟩, ⟨.int .i64 (18), v8, 8⟩, ⟨.int .i64 (19), v9, 9⟩, ⟨.int .i64 (20), v10, 10⟩, ⟨.int .i64 (21), v11, 11⟩] 12 (22) v rfl
  have up13 := fun (w : World) (v0 v1 v2 v3 v4 v5 v6 v7 v8 v9 v10 v11 v12 v : Value) => run_insert_new (P := Try.prog) 46 2 44 Try.underlying46 Try.underlying2 w #[⟨.int .i64 (10), v0, 0⟩, ⟨.int .i64 (11), v1, 1⟩, ⟨.int .i64 (12), v2, 2⟩, ⟨.int .i64 (13), v3, 3⟩, ⟨.int .i64 (14), v4, 4⟩, ⟨.int .i64 (15), v5, 5⟩, ⟨.int .i64 (16), v6, 6⟩, ⟨.int .i64 (17), v7, 7⟩, ⟨.int .i64 (18), v8, 8⟩, ⟨.int .i64 (19), v9, 9⟩, ⟨.int .i64 (20), v10, 10⟩, ⟨.int .i64 (21), v11, 11⟩, ⟨.int .i64 (22), v12, 12⟩] 13 (23) v rfl
  go_enter Try.func21, Try.ntmps21
  go_wp2
  go_ret
  exact ⟨rfl, rfl⟩
end Go.Proofs.Ytpcnnagcpckdlaa
