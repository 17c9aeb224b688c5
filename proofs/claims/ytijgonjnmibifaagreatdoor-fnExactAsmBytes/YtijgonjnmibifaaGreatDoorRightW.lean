/- impl.InsRight, spec.InsRight. -/
import Derived.Test.YtijgonjnmibifaaGreatDoorTakesW
import Derived.Laws.StructEq
import Derived.Deep.DeepCutAuto
import Derived.Deep.RegionHeld3
namespace Go.Proofs.YtijgonjnmibifaaGreatDoor
open Go.RowKit

/-- does the instruction stand right in the function of that number? -/
def rightM (p : List FnM) (f op a : Int) : Bool :=
  inL f p.length && (if op = 1 then true else if op = 2 ∨ op = 3 then decide (0 ≤ a ∧ a < (fnAt p f).locals) else if op = 30 ∨ op = 31 then inL a (fnAt p f).code.length
    else if op = 32 then inL a p.length else !(opRow op).1.isEmpty && decide (a = 0))

theorem zeroRow (W : World) : (Op.equalIn 10000 221 (.agg #[.string ⟨#[]⟩, .int .i64 0, .int .i64 0, .int .i64 0]) (.agg #[.string ⟨#[]⟩, .int .i64 0, .int .i64 0, .int .i64 0])).run Tryz.prog W = .ok true W := by kernel_rfl

theorem noZeroRow (l : List UInt8) (x y z : Int) (hl : l.isEmpty = false) (W : World) :
    (Op.equalIn 10000 221 (.agg #[.string ⟨l.toArray⟩, .int .i64 x, .int .i64 y, .int .i64 z]) (.agg #[.string ⟨#[]⟩, .int .i64 0, .int .i64 0, .int .i64 0])).run Tryz.prog W = .ok false W := by
  have u3 := Tryz.underlying2
  have a3 := Tryz.isAgg2
  have z3 := Tryz.sizeOf2
  have u4 := Tryz.underlying9
  have a4 := Tryz.isAgg9
  have z4 := Tryz.sizeOf9
  have hS : Tryz.prog.underlying 221 = some (.struct (Tryz.prog.fieldsOf 221)) := by kernel_rfl
  have hp : Tryz.prog.stoodInHeld 221 = false := by kernel_rfl
  rw [show (10000 : Nat) = 9999 + 1 from rfl, run_equalIn_agg W 9999 221 _ _ hS hp]
  simp only [Program.fieldsOf, Tryz.underlying221]
  go_simp

/-- of an op that is one: its name; what its A is -/
theorem noOp (op : Int) (h : (opRow op).1.isEmpty = true) : opRow op = ([], 0, 0, 0) := by
  revert h
  refine opRow_of op (P := fun r => r.1.isEmpty = true → r = ([], 0, 0, 0)) (fun _ _ => rfl) (fun k hk _ => ?_)
  have : ∀ k : Fin 39, (opN k.1).1.isEmpty = true → opN k.1 = ([], 0, 0, 0) := by decide
  exact this ⟨k, hk⟩

theorem arg_of (op : Int) : (opRow op).2.1 = if op = 1 then 1 else if op = 2 ∨ op = 3 then 2 else if op = 30 ∨ op = 31 then 3 else if op = 32 then 4 else 0 := by
  by_cases h : 0 ≤ op ∧ op < 39
  · obtain ⟨k, rfl⟩ := Int.eq_ofNat_of_zero_le h.1
    have : ∀ k : Fin 39, (opRow (k.1 : Int)).2.1 = if (k.1 : Int) = 1 then 1 else if (k.1 : Int) = 2 ∨ (k.1 : Int) = 3 then 2 else if (k.1 : Int) = 30 ∨ (k.1 : Int) = 31 then 3 else if (k.1 : Int) = 32 then 4 else 0 := by decide
    exact this ⟨k, by omega⟩
  · rw [show opRow op = ([], 0, 0, 0) by unfold opRow; rw [if_neg h]]
    rw [if_neg (by omega), if_neg (by omega), if_neg (by omega), if_neg (by omega)]

theorem rightM_out {p : List FnM} {f op a : Int} (h : inL f p.length = false) : rightM p f op a = false := by simp only [rightM, h, Bool.false_and]

theorem fnAt_nat (p : List FnM) (k : Nat) (h : k < p.length) : fnAt p (k : Int) = p[k] := by simp [fnAt, List.getD, h]

set_option maxRecDepth 100000 in
set_option maxHeartbeats 3200000 in
theorem implRight {B : Nat} (v : Value) (p : List FnM) (f op a : Int) (w : World) (ht : Tab w) (hr : FnRow B w v p) :
    Calls Tryz.prog 140 #[.agg #[v], .int .i64 f, .agg #[.int .i64 op, .int .i64 a]] w fun e w' => e = .returned (.bool (rightM p f op a)) ∧ Below w.heap.size w w' := by
  have Hr : Hid (FnRow B w v p) := hr
  have hlen := hr.len
  obtain ⟨A, cap, rfl⟩ := hr.form
  have Ht : Hid (∀ o o', Tab ((w.alloc o).alloc o')) := fun o o' => ht.below (((Below.refl _ _).alloc (Nat.le_refl _) _).alloc (by simp) _)
  clear hr ht
  go_enter Tryz.func140, Tryz.ntmps140
  go_wp2_with fail
  refine (rowOf op _ (Ht.out _ _)).mono ?_
  rintro e w1 ⟨rfl, hb⟩
  obtain ⟨x0, x1, x2⟩ := boxes_new w #[.slice A p.length cap] #[.int .i64 op, .int .i64 a] 34 146
  have Hb : Hid (Below w.heap.size w w1) := x2.trans (hb.mono (by simp; omega))
  have hB0 := x0.below hb
  have hB1 := x1.below hb
  have hz0 := hB0.1
  have hz1 := hB1.1
  have c0 := hB0.at0
  have d0 := hB1.at0
  have d1 := hB1.at1
  have Hr1 : Hid (FnRow B w1 (.slice A p.length cap) p) := Hr.out.below Hb.out
  have Hba : Hid (∀ o : Obj, Below w.heap.size w (w1.alloc o)) := fun o => Hb.out.alloc Hb.out.size _
  clear hb x0 x1 x2 hB0 hB1 Ht Hr
  by_cases hno : (opRow op).1.isEmpty = true
  · have hz := zeroRow
    have HT : Hid (rightM p f op a = false) := by
      show rightM p f op a = false
      have h1 : op ≠ 1 := by rintro rfl; revert hno; decide
      have h2 : ¬ (op = 2 ∨ op = 3) := by rintro (rfl | rfl) <;> (revert hno; decide)
      have h3 : ¬ (op = 30 ∨ op = 31) := by rintro (rfl | rfl) <;> (revert hno; decide)
      have h4 : op ≠ 32 := by rintro rfl; revert hno; decide
      simp only [rightM, if_neg h1, if_neg h2, if_neg h3, if_neg h4, hno, Bool.not_true, Bool.false_and, Bool.and_false]
    rw [noOp op hno]
    go_wp2_with fail
    go_ret
    exact ⟨by rw [HT.out]; rfl, Hba.out _⟩
  · have hne : (opRow op).1.isEmpty = false := by simpa using hno
    have hz := noZeroRow (opRow op).1 (opRow op).2.1 (opRow op).2.2.1 (opRow op).2.2.2 hne
    go_wp2_with fail
    refine (inList f p.length _ hlen).mono ?_
    rintro e w2 ⟨rfl, h⟩
    subst w2
    by_cases hf : inL f p.length = true
    · have HT : Hid (rightM p f op a = (if op = 1 then true else if op = 2 ∨ op = 3 then decide (0 ≤ a ∧ a < (fnAt p f).locals) else if op = 30 ∨ op = 31 then inL a (fnAt p f).code.length
          else if op = 32 then inL a p.length else !(opRow op).1.isEmpty && decide (a = 0))) := by show rightM p f op a = _; simp only [rightM, hf, Bool.true_and]
      have hin : 0 ≤ f ∧ f < p.length := by simpa [inL] using hf
      obtain ⟨k, rfl⟩ := Int.eq_ofNat_of_zero_le hin.1
      have hk : k < p.length := by omega
      rw [fnAt_nat p k hk] at HT
      rw [hf]
      obtain ⟨b, off, x, rfl, hlt, e0, e1, e2, hx⟩ := Hr1.out.at k hk
      obtain ⟨A', cap', hx', hxn, _⟩ := hx
      subst hx'
      have harg := arg_of op
      clear hno
      by_cases h1 : op = 1
      · subst h1
        simp only [if_true] at harg HT
        clear hz
        rw [show opRow 1 = ([112, 117, 115, 104], 1, 0, 1) from rfl]
        go_wp2_with fail
        go_ret
        exact ⟨by rw [HT.out]; rfl, Hba.out _⟩
      · rw [if_neg h1] at harg HT
        by_cases h2 : op = 2 ∨ op = 3
        · rw [if_pos h2] at harg HT
          by_cases ha0 : 0 ≤ a
          · go_upto_region 8 with fail
            go_quiet (fail)
            go_wp2_with fail
            go_ret
            exact ⟨by rw [HT.out]; simp [ha0], below_drewN (Hba.out _) _⟩
          · have ha1 : decide (0 ≤ a) = false := by simpa using ha0
            go_upto_region 8 with fail
            go_quiet (fail)
            go_wp2_with fail
            go_ret
            exact ⟨by rw [HT.out]; simp; omega, below_drewN (Hba.out _) _⟩
        · rw [if_neg h2] at harg HT
          by_cases h3 : op = 30 ∨ op = 31
          · rw [if_pos h3] at harg HT
            go_upto_region 10 with fail
            go_quiet ((go_at_call 93; exact Calls.quiet_of_same (inList a p[k].code.length _ hxn)))
            go_wp2_with fail
            go_ret
            exact ⟨by rw [HT.out]; rfl, below_drewN (Hba.out _) _⟩
          · rw [if_neg h3] at harg HT
            by_cases h4 : op = 32
            · rw [if_pos h4] at harg HT
              go_wp2_with fail
              refine (inList a p.length _ hlen).mono ?_
              rintro e w2 ⟨rfl, h⟩
              subst w2
              go_wp2_with fail
              go_ret
              exact ⟨by rw [HT.out]; rfl, Hba.out _⟩
            · rw [if_neg h4] at harg HT
              go_wp2_with fail
              go_ret
              exact ⟨by rw [HT.out, hne]; by_cases h0 : a = 0 <;> simp [h0], Hba.out _⟩
    · have hf' : inL f p.length = false := by simpa using hf
      have HT : Hid (rightM p f op a = false) := rightM_out hf'
      rw [hf']
      go_wp2_with fail
      go_ret
      exact ⟨by rw [HT.out]; rfl, Hba.out _⟩

set_option maxRecDepth 100000 in
set_option maxHeartbeats 3200000 in
theorem specRight {B : Nat} (v : Value) (p : List FnM) (f op a : Int) (w : World) (hr : FnRow B w v p) :
    Calls Tryz.prog 147 #[.agg #[v], .int .i64 f, .agg #[.int .i64 op, .int .i64 a]] w fun e w' => e = .returned (.bool (rightM p f op a)) ∧ Below w.heap.size w w' := by
  have Hr : Hid (FnRow B w v p) := hr
  have hlen := hr.len
  obtain ⟨A, cap, rfl⟩ := hr.form
  have Hba : Hid (∀ o o' : Obj, Below w.heap.size w ((w.alloc o).alloc o')) := fun o o' => ((Below.refl _ _).alloc (Nat.le_refl _) _).alloc (by simp) _
  clear hr
  by_cases hf : inL f p.length = true
  · have HT : Hid (rightM p f op a = (if op = 1 then true else if op = 2 ∨ op = 3 then decide (0 ≤ a ∧ a < (fnAt p f).locals) else if op = 30 ∨ op = 31 then inL a (fnAt p f).code.length
        else if op = 32 then inL a p.length else !(opRow op).1.isEmpty && decide (a = 0))) := by show rightM p f op a = _; simp only [rightM, hf, Bool.true_and]
    have hin : 0 ≤ f ∧ f < p.length := by simpa [inL] using hf
    obtain ⟨k, rfl⟩ := Int.eq_ofNat_of_zero_le hin.1
    have hk : k < p.length := by omega
    rw [fnAt_nat p k hk] at HT
    obtain ⟨b, off, x, rfl, hlt, e0, e1, e2, hx⟩ := Hr.out.at k hk
    obtain ⟨A', cap', hx', hxn, _⟩ := hx
    subst hx'
    by_cases h1 : op = 1
    · subst h1
      simp only [if_true] at HT
      go_enter Tryz.func147, Tryz.ntmps147
      go_wp2_with fail
      go_ret
      exact ⟨by rw [HT.out]; rfl, Hba.out _ _⟩
    · rw [if_neg h1] at HT
      by_cases h2 : op = 2 ∨ op = 3
      · rw [if_pos h2] at HT
        have fin : ∀ q : Bool, q = decide (0 ≤ a ∧ a < p[k].locals) → q = rightM p k op a := fun q h => by rw [HT.out, h]
        have Fin : Hid (∀ q : Bool, q = decide (0 ≤ a ∧ a < p[k].locals) → q = rightM p k op a) := fin
        clear fin HT h1
        by_cases ha0 : 0 ≤ a
        · rcases h2 with rfl | rfl
          all_goals
            go_enter Tryz.func147, Tryz.ntmps147
            go_upto_region 8 with fail
            go_quiet (fail)
            go_wp2_with fail
            go_ret
            exact ⟨congrArg (fun q => Ending.returned (.bool q)) (Fin.out _ (by simp [ha0])), below_drewN (Hba.out _ _) _⟩
        · have ha1 : decide (0 ≤ a) = false := by simpa using ha0
          rcases h2 with rfl | rfl
          all_goals
            go_enter Tryz.func147, Tryz.ntmps147
            go_upto_region 8 with fail
            go_quiet (fail)
            go_wp2_with fail
            go_ret
            exact ⟨congrArg (fun q => Ending.returned (.bool q)) (Fin.out _ (by simp; omega)), below_drewN (Hba.out _ _) _⟩
      · rw [if_neg h2] at HT
        by_cases h3 : op = 30 ∨ op = 31
        · rw [if_pos h3] at HT
          have Fin : Hid (∀ q : Bool, q = inL a p[k].code.length → q = rightM p k op a) := fun q h => by rw [HT.out, h]
          clear HT h1 h2
          by_cases ha0 : 0 ≤ a
          · rcases h3 with rfl | rfl
            all_goals
              go_enter Tryz.func147, Tryz.ntmps147
              go_upto_region 11 with fail
              go_quiet (fail)
              go_wp2_with fail
              go_ret
              exact ⟨congrArg (fun q => Ending.returned (.bool q)) (Fin.out _ (by simp [inL, ha0])), below_drewN (Hba.out _ _) _⟩
          · have ha1 : decide (0 ≤ a) = false := by simpa using ha0
            rcases h3 with rfl | rfl
            all_goals
              go_enter Tryz.func147, Tryz.ntmps147
              go_upto_region 11 with fail
              go_quiet (fail)
              go_wp2_with fail
              go_ret
              exact ⟨congrArg (fun q => Ending.returned (.bool q)) (Fin.out _ (by simp [inL]; omega)), below_drewN (Hba.out _ _) _⟩
        · rw [if_neg h3] at HT
          by_cases h4 : op = 32
          · subst h4
            rw [if_pos rfl] at HT
            have Fin : Hid (∀ q : Bool, q = inL a p.length → q = rightM p k 32 a) := fun q h => by rw [HT.out, h]
            clear HT h1 h2 h3
            by_cases ha0 : 0 ≤ a
            · go_enter Tryz.func147, Tryz.ntmps147
              go_wp2_with fail
              go_ret
              exact ⟨congrArg (fun q => Ending.returned (.bool q)) (Fin.out _ (by simp [inL, ha0])), Hba.out _ _⟩
            · have ha1 : decide (0 ≤ a) = false := by simpa using ha0
              go_enter Tryz.func147, Tryz.ntmps147
              go_wp2_with fail
              go_ret
              exact ⟨congrArg (fun q => Ending.returned (.bool q)) (Fin.out _ (by simp [inL]; omega)), Hba.out _ _⟩
          · rw [if_neg h4] at HT
            have Fin : Hid (∀ q : Bool, q = (!(opRow op).1.isEmpty && decide (a = 0)) → q = rightM p k op a) := fun q h => by rw [HT.out, h]
            clear HT
            obtain ⟨n2, n3⟩ := not_or.1 h2
            obtain ⟨n4, n5⟩ := not_or.1 h3
            have q1 : (op == 1) = false := by simpa using h1
            have q2 : (op == 2) = false := by simpa using n2
            have q3 : (op == 3) = false := by simpa using n3
            have q4 : (op == 30) = false := by simpa using n4
            have q5 : (op == 31) = false := by simpa using n5
            have q6 : (op == 32) = false := by simpa using h4
            go_enter Tryz.func147, Tryz.ntmps147
            go_wp2_with fail
            refine (specName op _).mono ?_
            rintro e w1 ⟨rfl, hb⟩
            obtain ⟨x0, x1, x2⟩ := boxes_new w #[.slice (some ⟨b, off, none⟩) p.length cap] #[.int .i64 op, .int .i64 a] 34 146
            have Hb : Hid (Below w.heap.size w w1) := x2.trans (hb.mono (by simp; omega))
            have hB1 := x1.below hb
            have d1 := hB1.at1
            clear hb x0 x1 x2 hB1
            by_cases hno : (opRow op).1.isEmpty = true
            · go_wp2_with fail
              go_ret
              exact ⟨congrArg (fun q => Ending.returned (.bool q)) (Fin.out _ (by simp [hno])), Hb.out⟩
            · have hne : (opRow op).1.isEmpty = false := by simpa using hno
              go_wp2_with fail
              go_ret
              exact ⟨congrArg (fun q => Ending.returned (.bool q)) (Fin.out _ (by by_cases h0 : a = 0 <;> simp [h0, hne])), Hb.out⟩
  · have hf' : inL f p.length = false := by simpa using hf
    have HT : Hid (rightM p f op a = false) := rightM_out hf'
    by_cases h0 : f < 0
    · go_enter Tryz.func147, Tryz.ntmps147
      go_wp2_with fail
      go_ret
      exact ⟨by rw [HT.out]; rfl, Hba.out _ _⟩
    · have h1 : decide (f < 0) = false := by simpa using h0
      have h2 : (p.length : Int) ≤ f := by simp [inL] at hf'; omega
      go_enter Tryz.func147, Tryz.ntmps147
      go_wp2_with fail
      go_ret
      exact ⟨by rw [HT.out]; rfl, Hba.out _ _⟩
end Go.Proofs.YtijgonjnmibifaaGreatDoor
