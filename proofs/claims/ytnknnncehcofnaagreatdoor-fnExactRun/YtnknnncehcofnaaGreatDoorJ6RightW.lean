/- impl.InsRight, spec.InsRight. Programs that may run, as a plain account: what Verify tells; in a right program each place that is reached has what it takes, and goes on to places of the height that it leaves; headers. -/
import Derived.Test.YtnknnncehcofnaaGreatDoorJ2TakesW
import Derived.Laws.StructEq
import Derived.Deep.DeepCutAuto
import Derived.Deep.RegionHeld3
import Derived.Test.YtnknnncehcofnaaGreatDoorJ5InsertC
namespace Go.Proofs.YtnknnncehcofnaaGreatDoor
open Go.RowKit

/-- does the instruction stand right in the function of that number? -/
def rightM (p : List FnM) (f op a : Int) : Bool :=
  inL f p.length && (if op = 1 then true else if op = 2 ∨ op = 3 then decide (0 ≤ a ∧ a < (fnAt p f).locals) else if op = 30 ∨ op = 31 then inL a (fnAt p f).code.length
    else if op = 32 then inL a p.length else !(opRow op).1.isEmpty && decide (a = 0))

theorem zeroRow (W : World) : (Op.equalIn 10000 250 (.agg #[.string ⟨#[]⟩, .int .i64 0, .int .i64 0, .int .i64 0]) (.agg #[.string ⟨#[]⟩, .int .i64 0, .int .i64 0, .int .i64 0])).run Tryz.prog W = .ok true W := by kernel_rfl

theorem noZeroRow (l : List UInt8) (x y z : Int) (hl : l.isEmpty = false) (W : World) :
    (Op.equalIn 10000 250 (.agg #[.string ⟨l.toArray⟩, .int .i64 x, .int .i64 y, .int .i64 z]) (.agg #[.string ⟨#[]⟩, .int .i64 0, .int .i64 0, .int .i64 0])).run Tryz.prog W = .ok false W := by
  have u3 := Tryz.underlying2
  have a3 := Tryz.isAgg2
  have z3 := Tryz.sizeOf2
  have u4 := Tryz.underlying9
  have a4 := Tryz.isAgg9
  have z4 := Tryz.sizeOf9
  have hS : Tryz.prog.underlying 250 = some (.struct (Tryz.prog.fieldsOf 250)) := by kernel_rfl
  have hp : Tryz.prog.stoodInHeld 250 = false := by kernel_rfl
  rw [show (10000 : Nat) = 9999 + 1 from rfl, run_equalIn_agg W 9999 250 _ _ hS hp]
  simp only [Program.fieldsOf, Tryz.underlying250]
  go_simp

/-- of an op that is one: its name; what its A is -/
theorem noOp (op : Int) (h : (opRow op).1.isEmpty = true) : opRow op = ([], 0, 0, 0) := by
  revert h
  refine opRow_of op (P := fun r => r.1.isEmpty = true → r = ([], 0, 0, 0)) (fun _ _ => rfl) (fun k hk _ => ?_)
  have : ∀ k : Fin 39, (opN k.1).1.isEmpty = true → opN k.1 = ([], 0, 0, 0) := by decide
  exact this ⟨k, hk⟩

theorem arg_of (op : Int) : (opRow op).2.1 = if op = 1 then 1 else if op = 2 ∨ op = 3 then 2 else if op = 30 ∨ op = 31 then 3 else if op = 32 then 4 else 0 := by
  by_cases h : 0 ≤ op ∧ op < 39
  · obtain ⟨k, rfl⟩ := Int.eq_ofNat_of_zero_le h.1
    have : ∀ k : Fin 39, (opRow (k.1 : Int)).2.1 = if (k.1 : Int) = 1 then 1 else if (k.1 : Int) = 2 ∨ (k.1 : Int) = 3 then 2 else if (k.1 : Int) = 30 ∨ (k.1 : Int) = 31 then 3 else if (k.1 : Int) = 32 then 4 else 0 := by decide
    exact this ⟨k, by omega⟩
  · rw [show opRow op = ([], 0, 0, 0) by unfold opRow; rw [if_neg h]]
    rw [if_neg (by omega), if_neg (by omega), if_neg (by omega), if_neg (by omega)]

theorem rightM_out {p : List FnM} {f op a : Int} (h : inL f p.length = false) : rightM p f op a = false := by simp only [rightM, h, Bool.false_and]

theorem fnAt_nat (p : List FnM) (k : Nat) (h : k < p.length) : fnAt p (k : Int) = p[k] := by simp [fnAt, List.getD, h]

set_option maxRecDepth 100000 in
set_option maxHeartbeats 3200000 in
theorem implRight {B : Nat} (v : Value) (p : List FnM) (f op a : Int) (w : World) (ht : Tab w) (hr : FnRow B w v p) :
    Calls Tryz.prog 201 #[.agg #[v], .int .i64 f, .agg #[.int .i64 op, .int .i64 a]] w fun e w' => e = .returned (.bool (rightM p f op a)) ∧ Below w.heap.size w w' := by
  have Hr : Hid (FnRow B w v p) := hr
  have hlen := hr.len
  obtain ⟨A, cap, rfl⟩ := hr.form
  have Ht : Hid (∀ o o', Tab ((w.alloc o).alloc o')) := fun o o' => ht.below (((Below.refl _ _).alloc (Nat.le_refl _) _).alloc (by simp) _)
  clear hr ht
  go_enter Tryz.func201, Tryz.ntmps201
  go_wp2_with fail
  refine (rowOf op _ (Ht.out _ _)).mono ?_
  rintro e w1 ⟨rfl, hb⟩
  obtain ⟨x0, x1, x2⟩ := boxes_new w #[.slice A p.length cap] #[.int .i64 op, .int .i64 a] 25 112
  have Hb : Hid (Below w.heap.size w w1) := x2.trans (hb.mono (by simp; omega))
  have hB0 := x0.below hb
  have hB1 := x1.below hb
  have hz0 := hB0.1
  have hz1 := hB1.1
  have c0 := hB0.at0
  have d0 := hB1.at0
  have d1 := hB1.at1
  have Hr1 : Hid (FnRow B w1 (.slice A p.length cap) p) := Hr.out.below Hb.out
  have Hba : Hid (∀ o : Obj, Below w.heap.size w (w1.alloc o)) := fun o => Hb.out.alloc Hb.out.size _
  clear hb x0 x1 x2 hB0 hB1 Ht Hr
  by_cases hno : (opRow op).1.isEmpty = true
  · have hz := zeroRow
    have HT : Hid (rightM p f op a = false) := by
      show rightM p f op a = false
      have h1 : op ≠ 1 := by rintro rfl; revert hno; decide
      have h2 : ¬ (op = 2 ∨ op = 3) := by rintro (rfl | rfl) <;> (revert hno; decide)
      have h3 : ¬ (op = 30 ∨ op = 31) := by rintro (rfl | rfl) <;> (revert hno; decide)
      have h4 : op ≠ 32 := by rintro rfl; revert hno; decide
      simp only [rightM, if_neg h1, if_neg h2, if_neg h3, if_neg h4, hno, Bool.not_true, Bool.false_and, Bool.and_false]
    rw [noOp op hno]
    go_wp2_with fail
    go_ret
    exact ⟨by rw [HT.out]; rfl, Hba.out _⟩
  · have hne : (opRow op).1.isEmpty = false := by simpa using hno
    have hz := noZeroRow (opRow op).1 (opRow op).2.1 (opRow op).2.2.1 (opRow op).2.2.2 hne
    go_wp2_with fail
    refine (inList f p.length _ hlen).mono ?_
    rintro e w2 ⟨rfl, h⟩
    subst w2
    by_cases hf : inL f p.length = true
    · have HT : Hid (rightM p f op a = (if op = 1 then true else if op = 2 ∨ op = 3 then decide (0 ≤ a ∧ a < (fnAt p f).locals) else if op = 30 ∨ op = 31 then inL a (fnAt p f).code.length
          else if op = 32 then inL a p.length else !(opRow op).1.isEmpty && decide (a = 0))) := by show rightM p f op a = _; simp only [rightM, hf, Bool.true_and]
      have hin : 0 ≤ f ∧ f < p.length := by simpa [inL] using hf
      obtain ⟨k, rfl⟩ := Int.eq_ofNat_of_zero_le hin.1
      have hk : k < p.length := by omega
      rw [fnAt_nat p k hk] at HT
      rw [hf]
      obtain ⟨b, off, x, rfl, hlt, e0, e1, e2, hx⟩ := Hr1.out.at k hk
      obtain ⟨A', cap', hx', hxn, _⟩ := hx
      subst hx'
      have harg := arg_of op
      clear hno
      by_cases h1 : op = 1
      · subst h1
        simp only [if_true] at harg HT
        clear hz
        rw [show opRow 1 = ([112, 117, 115, 104], 1, 0, 1) from rfl]
        go_wp2_with fail
        go_ret
        exact ⟨by rw [HT.out]; rfl, Hba.out _⟩
      · rw [if_neg h1] at harg HT
        by_cases h2 : op = 2 ∨ op = 3
        · rw [if_pos h2] at harg HT
          by_cases ha0 : 0 ≤ a
          · go_upto_region 8 with fail
            go_quiet (fail)
            go_wp2_with fail
            go_ret
            exact ⟨by rw [HT.out]; simp [ha0], below_drewN (Hba.out _) _⟩
          · have ha1 : decide (0 ≤ a) = false := by simpa using ha0
            go_upto_region 8 with fail
            go_quiet (fail)
            go_wp2_with fail
            go_ret
            exact ⟨by rw [HT.out]; simp; omega, below_drewN (Hba.out _) _⟩
        · rw [if_neg h2] at harg HT
          by_cases h3 : op = 30 ∨ op = 31
          · rw [if_pos h3] at harg HT
            go_upto_region 10 with fail
            go_quiet ((go_at_call 86; exact Calls.quiet_of_same (inList a p[k].code.length _ hxn)))
            go_wp2_with fail
            go_ret
            exact ⟨by rw [HT.out]; rfl, below_drewN (Hba.out _) _⟩
          · rw [if_neg h3] at harg HT
            by_cases h4 : op = 32
            · rw [if_pos h4] at harg HT
              go_wp2_with fail
              refine (inList a p.length _ hlen).mono ?_
              rintro e w2 ⟨rfl, h⟩
              subst w2
              go_wp2_with fail
              go_ret
              exact ⟨by rw [HT.out]; rfl, Hba.out _⟩
            · rw [if_neg h4] at harg HT
              go_wp2_with fail
              go_ret
              exact ⟨by rw [HT.out, hne]; by_cases h0 : a = 0 <;> simp [h0], Hba.out _⟩
    · have hf' : inL f p.length = false := by simpa using hf
      have HT : Hid (rightM p f op a = false) := rightM_out hf'
      rw [hf']
      go_wp2_with fail
      go_ret
      exact ⟨by rw [HT.out]; rfl, Hba.out _⟩

set_option maxRecDepth 100000 in
set_option maxHeartbeats 3200000 in
theorem specRight {B : Nat} (v : Value) (p : List FnM) (f op a : Int) (w : World) (hr : FnRow B w v p) :
    Calls Tryz.prog 224 #[.agg #[v], .int .i64 f, .agg #[.int .i64 op, .int .i64 a]] w fun e w' => e = .returned (.bool (rightM p f op a)) ∧ Below w.heap.size w w' := by
  have Hr : Hid (FnRow B w v p) := hr
  have hlen := hr.len
  obtain ⟨A, cap, rfl⟩ := hr.form
  have Hba : Hid (∀ o o' : Obj, Below w.heap.size w ((w.alloc o).alloc o')) := fun o o' => ((Below.refl _ _).alloc (Nat.le_refl _) _).alloc (by simp) _
  clear hr
  by_cases hf : inL f p.length = true
  · have HT : Hid (rightM p f op a = (if op = 1 then true else if op = 2 ∨ op = 3 then decide (0 ≤ a ∧ a < (fnAt p f).locals) else if op = 30 ∨ op = 31 then inL a (fnAt p f).code.length
        else if op = 32 then inL a p.length else !(opRow op).1.isEmpty && decide (a = 0))) := by show rightM p f op a = _; simp only [rightM, hf, Bool.true_and]
    have hin : 0 ≤ f ∧ f < p.length := by simpa [inL] using hf
    obtain ⟨k, rfl⟩ := Int.eq_ofNat_of_zero_le hin.1
    have hk : k < p.length := by omega
    rw [fnAt_nat p k hk] at HT
    obtain ⟨b, off, x, rfl, hlt, e0, e1, e2, hx⟩ := Hr.out.at k hk
    obtain ⟨A', cap', hx', hxn, _⟩ := hx
    subst hx'
    by_cases h1 : op = 1
    · subst h1
      simp only [if_true] at HT
      go_enter Tryz.func224, Tryz.ntmps224
      go_wp2_with fail
      go_ret
      exact ⟨by rw [HT.out]; rfl, Hba.out _ _⟩
    · rw [if_neg h1] at HT
      by_cases h2 : op = 2 ∨ op = 3
      · rw [if_pos h2] at HT
        have fin : ∀ q : Bool, q = decide (0 ≤ a ∧ a < p[k].locals) → q = rightM p k op a := fun q h => by rw [HT.out, h]
        have Fin : Hid (∀ q : Bool, q = decide (0 ≤ a ∧ a < p[k].locals) → q = rightM p k op a) := fin
        clear fin HT h1
        by_cases ha0 : 0 ≤ a
        · rcases h2 with rfl | rfl
          all_goals
            go_enter Tryz.func224, Tryz.ntmps224
            go_upto_region 8 with fail
            go_quiet (fail)
            go_wp2_with fail
            go_ret
            exact ⟨congrArg (fun q => Ending.returned (.bool q)) (Fin.out _ (by simp [ha0])), below_drewN (Hba.out _ _) _⟩
        · have ha1 : decide (0 ≤ a) = false := by simpa using ha0
          rcases h2 with rfl | rfl
          all_goals
            go_enter Tryz.func224, Tryz.ntmps224
            go_upto_region 8 with fail
            go_quiet (fail)
            go_wp2_with fail
            go_ret
            exact ⟨congrArg (fun q => Ending.returned (.bool q)) (Fin.out _ (by simp; omega)), below_drewN (Hba.out _ _) _⟩
      · rw [if_neg h2] at HT
        by_cases h3 : op = 30 ∨ op = 31
        · rw [if_pos h3] at HT
          have Fin : Hid (∀ q : Bool, q = inL a p[k].code.length → q = rightM p k op a) := fun q h => by rw [HT.out, h]
          clear HT h1 h2
          by_cases ha0 : 0 ≤ a
          · rcases h3 with rfl | rfl
            all_goals
              go_enter Tryz.func224, Tryz.ntmps224
              go_upto_region 11 with fail
              go_quiet (fail)
              go_wp2_with fail
              go_ret
              exact ⟨congrArg (fun q => Ending.returned (.bool q)) (Fin.out _ (by simp [inL, ha0])), below_drewN (Hba.out _ _) _⟩
          · have ha1 : decide (0 ≤ a) = false := by simpa using ha0
            rcases h3 with rfl | rfl
            all_goals
              go_enter Tryz.func224, Tryz.ntmps224
              go_upto_region 11 with fail
              go_quiet (fail)
              go_wp2_with fail
              go_ret
              exact ⟨congrArg (fun q => Ending.returned (.bool q)) (Fin.out _ (by simp [inL]; omega)), below_drewN (Hba.out _ _) _⟩
        · rw [if_neg h3] at HT
          by_cases h4 : op = 32
          · subst h4
            rw [if_pos rfl] at HT
            have Fin : Hid (∀ q : Bool, q = inL a p.length → q = rightM p k 32 a) := fun q h => by rw [HT.out, h]
            clear HT h1 h2 h3
            by_cases ha0 : 0 ≤ a
            · go_enter Tryz.func224, Tryz.ntmps224
              go_wp2_with fail
              go_ret
              exact ⟨congrArg (fun q => Ending.returned (.bool q)) (Fin.out _ (by simp [inL, ha0])), Hba.out _ _⟩
            · have ha1 : decide (0 ≤ a) = false := by simpa using ha0
              go_enter Tryz.func224, Tryz.ntmps224
              go_wp2_with fail
              go_ret
              exact ⟨congrArg (fun q => Ending.returned (.bool q)) (Fin.out _ (by simp [inL]; omega)), Hba.out _ _⟩
          · rw [if_neg h4] at HT
            have Fin : Hid (∀ q : Bool, q = (!(opRow op).1.isEmpty && decide (a = 0)) → q = rightM p k op a) := fun q h => by rw [HT.out, h]
            clear HT
            obtain ⟨n2, n3⟩ := not_or.1 h2
            obtain ⟨n4, n5⟩ := not_or.1 h3
            have q1 : (op == 1) = false := by simpa using h1
            have q2 : (op == 2) = false := by simpa using n2
            have q3 : (op == 3) = false := by simpa using n3
            have q4 : (op == 30) = false := by simpa using n4
            have q5 : (op == 31) = false := by simpa using n5
            have q6 : (op == 32) = false := by simpa using h4
            go_enter Tryz.func224, Tryz.ntmps224
            go_wp2_with fail
            refine (specName op _).mono ?_
            rintro e w1 ⟨rfl, hb⟩
            obtain ⟨x0, x1, x2⟩ := boxes_new w #[.slice (some ⟨b, off, none⟩) p.length cap] #[.int .i64 op, .int .i64 a] 25 112
            have Hb : Hid (Below w.heap.size w w1) := x2.trans (hb.mono (by simp; omega))
            have hB1 := x1.below hb
            have d1 := hB1.at1
            clear hb x0 x1 x2 hB1
            by_cases hno : (opRow op).1.isEmpty = true
            · go_wp2_with fail
              go_ret
              exact ⟨congrArg (fun q => Ending.returned (.bool q)) (Fin.out _ (by simp [hno])), Hb.out⟩
            · have hne : (opRow op).1.isEmpty = false := by simpa using hno
              go_wp2_with fail
              go_ret
              exact ⟨congrArg (fun q => Ending.returned (.bool q)) (Fin.out _ (by by_cases h0 : a = 0 <;> simp [h0, hne])), Hb.out⟩
  · have hf' : inL f p.length = false := by simpa using hf
    have HT : Hid (rightM p f op a = false) := rightM_out hf'
    by_cases h0 : f < 0
    · go_enter Tryz.func224, Tryz.ntmps224
      go_wp2_with fail
      go_ret
      exact ⟨by rw [HT.out]; rfl, Hba.out _ _⟩
    · have h1 : decide (f < 0) = false := by simpa using h0
      have h2 : (p.length : Int) ≤ f := by simp [inL] at hf'; omega
      go_enter Tryz.func224, Tryz.ntmps224
      go_wp2_with fail
      go_ret
      exact ⟨by rw [HT.out]; rfl, Hba.out _ _⟩
end Go.Proofs.YtnknnncehcofnaaGreatDoor

namespace Go.Proofs.YtnknnncehcofnaaGreatDoor
open Go.RowKit

def formOk (f : FnM) : Bool := decide (0 ≤ f.args ∧ f.args ≤ 4 ∧ f.args ≤ f.locals ∧ f.locals ≤ 8 ∧ 1 ≤ f.code.length ∧ f.code.length ≤ 60)
def startH (n : Nat) : HS := ⟨(List.replicate n (-1)).set 0 0, (List.replicate n false).set 0 true⟩
def insAt (c : List (Int × Int)) (k : Nat) : Int × Int := c.getD k (0, 0)

/-- what is told of function f: a place and a code -/
inductive FuncIs (p : List FnM) (f : Nat) : Int → Int → Prop
  | form : formOk (fnAt p f) = false → FuncIs p f 0 1
  | ins (k : Nat) : formOk (fnAt p f) = true → k < (fnAt p f).code.length → rightM p f (insAt (fnAt p f).code k).1 (insAt (fnAt p f).code k).2 = false →
      (∀ j, j < k → rightM p f (insAt (fnAt p f).code j).1 (insAt (fnAt p f).code j).2 = true) → FuncIs p f k 1
  | fault (at' : Nat) (c : Int) : formOk (fnAt p f) = true → (∀ j, j < (fnAt p f).code.length → rightM p f (insAt (fnAt p f).code j).1 (insAt (fnAt p f).code j).2 = true) →
      HRun p (fnAt p f).code (startH (fnAt p f).code.length) (.inr (at', c)) → FuncIs p f at' c
  | ok (h : List Int) : formOk (fnAt p f) = true → (∀ j, j < (fnAt p f).code.length → rightM p f (insAt (fnAt p f).code j).1 (insAt (fnAt p f).code j).2 = true) →
      HRun p (fnAt p f).code (startH (fnAt p f).code.length) (.inl h) → FuncIs p f 0 0

theorem FuncIs.unique {p : List FnM} {f : Nat} {a c a' c' : Int} (h : FuncIs p f a c) (k : FuncIs p f a' c') : a = a' ∧ c = c' := by
  cases h with
  | form h1 =>
    cases k with
    | form _ => exact ⟨rfl, rfl⟩
    | ins _ h2 => rw [h1] at h2; cases h2
    | fault _ _ h2 => rw [h1] at h2; cases h2
    | ok _ h2 => rw [h1] at h2; cases h2
  | ins x h1 hx hw hb =>
    cases k with
    | form h2 => rw [h1] at h2; cases h2
    | ins y _ hy hw' hb' =>
      have : x = y := by
        rcases Nat.lt_trichotomy x y with hl | he | hl
        · have := hb' x hl; rw [hw] at this; cases this
        · exact he
        · have := hb y hl; rw [hw'] at this; cases this
      subst this
      exact ⟨rfl, rfl⟩
    | fault _ _ _ ha _ => have := ha x hx; rw [hw] at this; cases this
    | ok _ _ ha _ => have := ha x hx; rw [hw] at this; cases this
  | fault x y h1 ha hr =>
    cases k with
    | form h2 => rw [h1] at h2; cases h2
    | ins z _ hz hw _ => have := ha z hz; rw [hw] at this; cases this
    | fault _ _ _ _ hr' =>
      have := hr.unique hr'
      simp only [Sum.inr.injEq, Prod.mk.injEq] at this
      obtain ⟨rfl, rfl⟩ := this
      exact ⟨rfl, rfl⟩
    | ok _ _ _ hr' => have := hr.unique hr'; cases this
  | ok h h1 ha hr =>
    cases k with
    | form h2 => rw [h1] at h2; cases h2
    | ins z _ hz hw _ => have := ha z hz; rw [hw] at this; cases this
    | fault _ _ _ _ hr' => have := hr.unique hr'; cases this
    | ok _ _ _ _ => exact ⟨rfl, rfl⟩

/-- what is told of a program: a function, a place and a code -/
inductive VerifyIs (p : List FnM) : Int → Int → Int → Prop
  | form : ¬ (1 ≤ p.length ∧ p.length ≤ 6) → VerifyIs p 0 0 1
  | fault (f : Nat) (a c : Int) : 1 ≤ p.length → p.length ≤ 6 → f < p.length → (∀ g, g < f → FuncIs p g 0 0) → FuncIs p f a c → c ≠ 0 → VerifyIs p f a c
  | ok : 1 ≤ p.length → p.length ≤ 6 → (∀ g, g < p.length → FuncIs p g 0 0) → VerifyIs p 0 0 0

theorem VerifyIs.unique {p : List FnM} {f a c f' a' c' : Int} (h : VerifyIs p f a c) (k : VerifyIs p f' a' c') : f = f' ∧ a = a' ∧ c = c' := by
  cases h with
  | form h1 =>
    cases k with
    | form _ => exact ⟨rfl, rfl, rfl⟩
    | fault _ _ _ h2 h3 => exact absurd ⟨h2, h3⟩ h1
    | ok h2 h3 => exact absurd ⟨h2, h3⟩ h1
  | fault x _ _ h1 h2 hx hb hf hc =>
    cases k with
    | form h3 => exact absurd ⟨h1, h2⟩ h3
    | fault y _ _ _ _ hy hb' hf' hc' =>
      have : x = y := by
        rcases Nat.lt_trichotomy x y with hl | he | hl
        · exact absurd (hf.unique (hb' x hl)).2 hc
        · exact he
        · exact absurd (hf'.unique (hb y hl)).2 hc'
      subst this
      obtain ⟨rfl, rfl⟩ := hf.unique hf'
      exact ⟨rfl, rfl, rfl⟩
    | ok _ _ ha => exact absurd (hf.unique (ha x hx)).2 hc
  | ok h1 h2 ha =>
    cases k with
    | form h3 => exact absurd ⟨h1, h2⟩ h3
    | fault y _ _ _ _ hy _ hf' hc' => exact absurd (hf'.unique (ha y hy)).2 hc'
    | ok _ _ _ => exact ⟨rfl, rfl, rfl⟩

theorem goOn_code {next : Int} : ∀ (ts : List Int) (s : HS) (c : Int), goOn next ts s = .inr c → c = 6 ∨ c = 5
  | [], s, c, h => by simp [goOn] at h
  | t :: ts, s, c, h => by
    rw [goOn] at h
    split at h
    · cases h; exact .inl rfl
    · split at h
      · cases h; exact .inr rfl
      · split at h
        · exact goOn_code ts _ c h
        · exact goOn_code ts _ c h

theorem turn_code {p : List FnM} {c : List (Int × Int)} {a : Nat} {s : HS} {x : Int} (h : turn p c a s = .inr x) : x = 6 ∨ x = 5 := by
  unfold turn at h
  split at h
  · cases h; exact .inr rfl
  · exact goOn_code _ _ _ h

theorem HRun.code {p : List FnM} {c : List (Int × Int)} {s : HS} {r : List Int ⊕ (Nat × Int)} (h : HRun p c s r) (a : Nat) (x : Int) (hr : r = .inr (a, x)) : x = 6 ∨ x = 5 := by
  induction h with
  | done _ _ => cases hr
  | fault _ _ _ _ ht => cases hr; exact turn_code ht
  | more _ _ _ _ _ _ _ ih => exact ih hr

/-- of a function of which all is well -/
theorem FuncIs.well {p : List FnM} {f : Nat} {a c : Int} (h : FuncIs p f a c) (hc : c = 0) : formOk (fnAt p f) = true ∧ (∀ j, j < (fnAt p f).code.length → rightM p f (insAt (fnAt p f).code j).1 (insAt (fnAt p f).code j).2 = true) ∧
    ∃ hs, HRun p (fnAt p f).code (startH (fnAt p f).code.length) (.inl hs) := by
  cases h with
  | form _ => cases hc
  | ins _ _ _ _ _ => cases hc
  | fault x y h1 h2 h3 => rcases h3.code x _ rfl with h | h <;> omega
  | ok hs h1 h2 h3 => exact ⟨h1, h2, hs, h3⟩

theorem VerifyIs.all {p : List FnM} {f a c : Int} (h : VerifyIs p f a c) (hc : c = 0) : 1 ≤ p.length ∧ p.length ≤ 6 ∧ ∀ g, g < p.length → FuncIs p g 0 0 := by
  cases h with
  | form _ => cases hc
  | fault _ _ _ _ _ _ _ _ hne => exact absurd hc hne
  | ok h1 h2 h3 => exact ⟨h1, h2, h3⟩

def RightP (p : List FnM) : Prop := VerifyIs p 0 0 0

theorem RightP.all {p : List FnM} (h : RightP p) : 1 ≤ p.length ∧ p.length ≤ 6 ∧ ∀ g, g < p.length → FuncIs p g 0 0 := VerifyIs.all h rfl

/-! what holds of the heights of a right program -/

/-- of each place that had a height it is what it was; another one has been given the height, and waits -/
theorem goOn_spec {n : Nat} {next : Int} (hn : 0 ≤ next) : ∀ (ts : List Int) (s s' : HS), (∀ t ∈ ts, 0 ≤ t) → s.h.length = n → s.wt.length = n → goOn next ts s = .inl s' →
    s'.h.length = n ∧ s'.wt.length = n ∧ (∀ t ∈ ts, t < n ∧ s'.h.getD t.toNat 0 = next) ∧
      ∀ j, j < n → (s'.h.getD j 0 = s.h.getD j 0 ∧ s'.wt.getD j false = s.wt.getD j false) ∨ (s.h.getD j 0 < 0 ∧ s'.h.getD j 0 = next ∧ s'.wt.getD j false = true)
  | [], s, s', _, lh, lw, h => by
    simp only [goOn, Sum.inl.injEq] at h
    subst h
    exact ⟨lh, lw, fun t ht => by simp at ht, fun j _ => .inl ⟨rfl, rfl⟩⟩
  | t :: ts, s, s', hp, lh, lw, h => by
    have ht0 := hp t (by simp)
    rw [goOn] at h
    split at h
    · cases h
    · rename_i hlt
      have hj : t.toNat < s.h.length := by omega
      have hj' : t.toNat < s.wt.length := by omega
      split at h
      · cases h
      · rename_i hne
        split at h
        · rename_i hneg
          obtain ⟨h1, h2, h3, h4⟩ := goOn_spec hn ts _ s' (fun t' ht' => hp t' (by simp [ht'])) (by simpa using lh) (by simpa using lw) h
          simp only [getD_set _ _ _ _ _ hj, getD_set _ _ _ _ _ hj'] at h4
          have h5 := h4 t.toNat (by omega)
          simp only [if_true] at h5
          refine ⟨h1, h2, fun t' ht' => ?_, fun j hjn => ?_⟩
          · rcases List.mem_cons.1 ht' with rfl | ht'
            · refine ⟨by omega, ?_⟩
              rcases h5 with h5 | h5
              · exact h5.1
              · exact h5.2.1
            · exact h3 t' ht'
          · have h6 := h4 j hjn
            by_cases he : t.toNat = j
            · subst he
              simp only [if_true] at h6
              refine .inr ⟨hneg, ?_⟩
              rcases h6 with h6 | h6
              · exact h6
              · exact h6.2
            · simpa only [if_neg he] using h6
        · rename_i hnn
          obtain ⟨h1, h2, h3, h4⟩ := goOn_spec hn ts s s' (fun t' ht' => hp t' (by simp [ht'])) lh lw h
          refine ⟨h1, h2, fun t' ht' => ?_, h4⟩
          rcases List.mem_cons.1 ht' with rfl | ht'
          · refine ⟨by omega, ?_⟩
            have hx : s.h.getD t'.toNat 0 = next := by
              have := not_and.1 hne (by omega)
              exact Classical.not_not.1 this
            rcases h4 t'.toNat (by omega) with h5 | h5
            · rw [h5.1, hx]
            · exact h5.2.1
          · exact h3 t' ht'

/-- all functions' Args are 0 to 4 -/
def ArgsOk (p : List FnM) : Prop := ∀ f ∈ p, 0 ≤ f.args ∧ f.args ≤ 4

theorem takesM_range {p : List FnM} (hp : ArgsOk p) (op a : Int) : 0 ≤ takesM p op a ∧ takesM p op a ≤ 4 := by
  unfold takesM
  split
  · split
    · rename_i h
      exact hp _ (fnAt_mem h)
    · omega
  · have := takes_row op
    omega

theorem leaves_plain {p : List FnM} (hp : ArgsOk p) {hh : Int} {i : Int × Int} (h0 : 0 ≤ hh) (h8 : hh ≤ 8) (ht : takesM p i.1 i.2 ≤ hh) : leaves p hh i = hh - takesM p i.1 i.2 + putsM i.1 ∧ 0 ≤ leaves p hh i := by
  have h1 := takesM_range hp i.1 i.2
  have h2 := putsM_range i.1
  unfold leaves wrap64
  omega

/-- a place that has been gone on from -/
def Good (p : List FnM) (c : List (Int × Int)) (h : List Int) (j : Nat) : Prop :=
  takesM p (insAt c j).1 (insAt c j).2 ≤ h.getD j 0 ∧ leaves p (h.getD j 0) (insAt c j) ≤ 8 ∧ ∀ t ∈ goesTo j (insAt c j), t < c.length ∧ h.getD t.toNat 0 = leaves p (h.getD j 0) (insAt c j)

structure HGood (p : List FnM) (c : List (Int × Int)) (s : HS) : Prop where
  lh : s.h.length = c.length
  lw : s.wt.length = c.length
  first : s.h.getD 0 0 = 0
  range : ∀ j, j < c.length → s.h.getD j 0 = -1 ∨ (0 ≤ s.h.getD j 0 ∧ s.h.getD j 0 ≤ 8)
  wait : ∀ j, j < c.length → s.wt.getD j false = true → 0 ≤ s.h.getD j 0
  good : ∀ j, j < c.length → 0 ≤ s.h.getD j 0 → s.wt.getD j false = false → Good p c s.h j

theorem HGood.turn {p : List FnM} (hp : ArgsOk p) {c : List (Int × Int)} {a : Nat} {s s' : HS} (hto : ∀ j, j < c.length → ∀ t ∈ goesTo j (insAt c j), 0 ≤ t) (g : HGood p c s) (hl : IsLeast s.wt a) (h : turn p c a s = .inl s') : HGood p c s' := by
  have ha : a < c.length := by rw [← g.lw]; exact hl.1
  have h0 : 0 ≤ s.h.getD a 0 := g.wait a ha hl.2.1
  have h8 : s.h.getD a 0 ≤ 8 := by rcases g.range a ha with h | h <;> omega
  unfold Go.Proofs.YtnknnncehcofnaaGreatDoor.turn at h
  split at h
  · cases h
  · rename_i hc
    obtain ⟨hc1, hc2⟩ := not_or.1 hc
    have hle := leaves_plain hp h0 h8 (i := insAt c a) (by unfold insAt; omega)
    have hc2' : leaves p (s.h.getD a 0) (insAt c a) ≤ 8 := by unfold insAt; omega
    obtain ⟨k1, k2, k3, k4⟩ := goOn_spec (n := c.length) (next := leaves p (s.h.getD a 0) (insAt c a)) hle.2 (goesTo a (insAt c a)) ⟨s.h, s.wt.set a false⟩ s' (hto a ha) g.lh (by simpa using g.lw) h
    have hwa : a < s.wt.length := hl.1
    simp only [getD_set _ _ _ _ _ hwa] at k4
    have keep : ∀ j, j < c.length → 0 ≤ s.h.getD j 0 → s'.h.getD j 0 = s.h.getD j 0 := fun j hj hn => by
      rcases k4 j hj with h1 | h1
      · exact h1.1
      · omega
    refine ⟨k1, k2, ?_, fun j hj => ?_, fun j hj hw => ?_, fun j hj hn hw => ?_⟩
    · rw [keep 0 (by omega) (by rw [g.first]; omega)]
      exact g.first
    · rcases k4 j hj with h1 | h1
      · rw [h1.1]; exact g.range j hj
      · right; rw [h1.2.1]; exact ⟨hle.2, hc2'⟩
    · rcases k4 j hj with h1 | h1
      · rw [h1.1]
        rw [h1.2] at hw
        split at hw
        · cases hw
        · exact g.wait j hj hw
      · rw [h1.2.1]; exact hle.2
    · rcases k4 j hj with h1 | h1
      · have hn' : 0 ≤ s.h.getD j 0 := by rw [← h1.1]; exact hn
        have e1 : s'.h.getD j 0 = s.h.getD j 0 := h1.1
        by_cases haj : a = j
        · subst haj
          refine ⟨by rw [e1]; unfold insAt; omega, by rw [e1]; exact hc2', fun t ht => ?_⟩
          rw [e1]
          exact k3 t ht
        · have hw' : s.wt.getD j false = false := by
            have := h1.2
            rw [if_neg haj] at this
            rw [← this]; exact hw
          obtain ⟨g1, g2, g3⟩ := g.good j hj hn' hw'
          refine ⟨by rw [e1]; exact g1, by rw [e1]; exact g2, fun t ht => ?_⟩
          obtain ⟨q1, q2⟩ := g3 t ht
          have ht0 := hto j hj t ht
          have h8j : s.h.getD j 0 ≤ 8 := by rcases g.range j hj with h | h <;> omega
          have hlj := leaves_plain hp hn' h8j g1
          refine ⟨q1, ?_⟩
          rw [e1, keep t.toNat (by omega) (by rw [q2]; exact hlj.2)]
          exact q2
      · rw [h1.2.2] at hw; cases hw

theorem HRun.good {p : List FnM} (hp : ArgsOk p) {c : List (Int × Int)} {s : HS} {r : List Int ⊕ (Nat × Int)} (hto : ∀ j, j < c.length → ∀ t ∈ goesTo j (insAt c j), 0 ≤ t) (h : HRun p c s r) (g : HGood p c s) (hs : List Int) (hr : r = .inl hs) :
    hs.length = c.length ∧ hs.getD 0 0 = 0 ∧ (∀ j, j < c.length → hs.getD j 0 = -1 ∨ (0 ≤ hs.getD j 0 ∧ hs.getD j 0 ≤ 8)) ∧ ∀ j, j < c.length → 0 ≤ hs.getD j 0 → Good p c hs j := by
  induction h with
  | done s hw => cases hr; exact ⟨g.lh, g.first, g.range, fun j hj hn => g.good j hj hn (hw j)⟩
  | fault _ _ _ _ _ => cases hr
  | more s s' a r hl ht _ ih => exact ih (g.turn hp hto hl ht) hr

theorem start_good {p : List FnM} {c : List (Int × Int)} (h1 : 1 ≤ c.length) : HGood p c (startH c.length) := by
  have hr : ∀ j, j < c.length → (startH c.length).h.getD j 0 = if 0 = j then 0 else -1 := fun j hj => by
    unfold startH
    rw [getD_set _ _ _ _ _ (by rw [List.length_replicate]; omega)]
    by_cases he : 0 = j
    · simp [he]
    · simp [he, List.getD, hj]
  have hw : ∀ j, j < c.length → (startH c.length).wt.getD j false = if 0 = j then true else false := fun j hj => by
    unfold startH
    rw [getD_set _ _ _ _ _ (by rw [List.length_replicate]; omega)]
    by_cases he : 0 = j
    · simp [he]
    · simp [he, List.getD, hj]
  refine ⟨by simp [startH], by simp [startH], by rw [hr 0 h1]; rfl, fun j hj => ?_, fun j hj hwj => ?_, fun j hj hn hwj => ?_⟩
  · rw [hr j hj]; split <;> omega
  · rw [hw j hj] at hwj
    rw [hr j hj]
    split at hwj
    · rename_i he; rw [if_pos he]; omega
    · cases hwj
  · rw [hw j hj] at hwj
    rw [hr j hj] at hn
    split at hwj
    · cases hwj
    · rename_i he; rw [if_neg he] at hn; omega

/-- where an instruction that stands right goes on is no place below 0 -/
theorem goesTo_nat {p : List FnM} {f : Nat} {c : List (Int × Int)} (ha : ∀ j, j < c.length → rightM p f (insAt c j).1 (insAt c j).2 = true) : ∀ j, j < c.length → ∀ t ∈ goesTo j (insAt c j), 0 ≤ t := by
  intro j hj t ht
  have h := ha j hj
  unfold goesTo at ht
  rcases List.mem_append.1 ht with h1 | h1
  · split at h1
    · simp at h1
    · simp at h1; omega
  · split at h1
    · rename_i ho
      simp at h1
      subst h1
      unfold rightM at h
      rw [Bool.and_eq_true] at h
      have h2 := h.2
      rw [if_neg (by omega), if_neg (by omega), if_pos ho] at h2
      simp [inL] at h2
      omega
    · simp at h1

/-- THE HEIGHTS OF A FUNCTION OF A RIGHT PROGRAM -/
theorem RightP.heights {p : List FnM} (h : RightP p) (f : Nat) (hf : f < p.length) : ∃ hs, HRun p (fnAt p f).code (startH (fnAt p f).code.length) (.inl hs) ∧ hs.length = (fnAt p f).code.length ∧ 1 ≤ hs.length ∧ hs.getD 0 0 = 0 ∧
    (∀ j, j < hs.length → hs.getD j 0 = -1 ∨ (0 ≤ hs.getD j 0 ∧ hs.getD j 0 ≤ 8)) ∧ ∀ j, j < hs.length → 0 ≤ hs.getD j 0 → Good p (fnAt p f).code hs j := by
  obtain ⟨_, _, hall⟩ := h.all
  obtain ⟨w1, w2, hs, w3⟩ := (hall f hf).well rfl
  have hp : ArgsOk p := by
    intro g hg
    obtain ⟨k, hk, rfl⟩ := List.getElem_of_mem hg
    have := ((hall k hk).well rfl).1
    rw [fnAt_nat p k hk] at this
    simp [formOk] at this
    omega
  have hl : 1 ≤ (fnAt p f).code.length := by simp [formOk] at w1; omega
  obtain ⟨q1, q2, q3, q4⟩ := w3.good hp (goesTo_nat w2) (start_good hl) hs rfl
  exact ⟨hs, w3, q1, by omega, q2, by rw [q1]; exact q3, by rw [q1]; exact q4⟩

/-- the headers -/
def isHead (c : List (Int × Int)) (hs : List Int) (t : Nat) : Bool :=
  (List.range hs.length).any fun i => decide (t ≤ i) && decide (0 ≤ hs.getD i 0) && (decide ((insAt c i).1 = 30) || decide ((insAt c i).1 = 31)) && decide ((insAt c i).2 = (t : Int))
def heads (c : List (Int × Int)) (hs : List Int) : List Nat := (List.range hs.length).filter (isHead c hs)

theorem heads_rise (c : List (Int × Int)) (hs : List Int) : (heads c hs).Pairwise (· < ·) := List.Pairwise.filter _ List.pairwise_lt_range

theorem leaves_nonneg {p : List FnM} (hp : ArgsOk p) {hh : Int} {i : Int × Int} (h0 : 0 ≤ hh) (h8 : hh ≤ 8) (ht : takesM p i.1 i.2 ≤ hh) : 0 ≤ leaves p hh i := (leaves_plain hp h0 h8 ht).2

theorem RightP.args {p : List FnM} (h : RightP p) : ArgsOk p := by
  obtain ⟨_, _, hall⟩ := h.all
  intro g hg
  obtain ⟨k, hk, rfl⟩ := List.getElem_of_mem hg
  have := ((hall k hk).well rfl).1
  rw [fnAt_nat p k hk] at this
  simp [formOk] at this
  omega

/-- headers are places that are reached -/
theorem heads_reached {p : List FnM} (hp : ArgsOk p) {c : List (Int × Int)} {hs : List Int} (hr : ∀ j, j < hs.length → hs.getD j 0 = -1 ∨ (0 ≤ hs.getD j 0 ∧ hs.getD j 0 ≤ 8))
    (hg : ∀ j, j < hs.length → 0 ≤ hs.getD j 0 → Good p c hs j) (t : Nat) (ht : t ∈ heads c hs) : t < hs.length ∧ 0 ≤ hs.getD t 0 := by
  obtain ⟨h1, h2⟩ := List.mem_filter.1 ht
  have h1' := List.mem_range.1 h1
  refine ⟨h1', ?_⟩
  unfold isHead at h2
  obtain ⟨i, hi, h3⟩ := List.any_eq_true.1 h2
  have hi' := List.mem_range.1 hi
  simp only [Bool.and_eq_true, Bool.or_eq_true, decide_eq_true_eq] at h3
  obtain ⟨⟨⟨_, hn⟩, ho⟩, hA⟩ := h3
  obtain ⟨g1, _, g3⟩ := hg i hi' hn
  have hm : ((t : Nat) : Int) ∈ goesTo i (insAt c i) := by
    unfold goesTo
    rw [if_pos (show (insAt c i).1 = 30 ∨ (insAt c i).1 = 31 from ho)]
    simp [hA]
  have h5 := (g3 _ hm).2
  rw [Int.toNat_natCast] at h5
  rw [h5]
  have h8 : hs.getD i 0 ≤ 8 := by rcases hr i hi' with h | h <;> omega
  exact leaves_nonneg hp hn h8 g1
end Go.Proofs.YtnknnncehcofnaaGreatDoor
