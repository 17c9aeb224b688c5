/- When a state is right for a right program, as plain lists; the model's way and the program's are the same. A step of a right state leaves it right. A state in memory of the call's own: each cell of its lists belongs to one list; what is written to one list changes no other. -/
import Derived.Test.YtnknnncehcofnaaGreatDoorJ0Prg
import Derived.Test.YtnknnncehcofnaaGreatDoorJ12VerI
import Derived.Test.YtnknnncehcofnaaGreatDoorJ4StepP
namespace Go.Proofs.YtnknnncehcofnaaGreatDoor
open Go.RowKit

/-- all of a state but its frames -/
def heapOk (hp : List (List Int)) : Bool := decide (hp.length ≤ 30) && hp.all (fun a => decide (a.length ≤ 50))
def restOk (s : StM) : Bool := (decide (0 ≤ s.fuel) && decide (s.fuel ≤ 3000)) && heapOk s.heap && decide ((s.out.length : Int) ≤ 3000 - s.fuel)

/-- .. and how it stands: done, or with frames -/
def toldOk (s : StM) : Bool :=
  if s.done then s.frames.isEmpty && (s.trap == 0 || (decide (11 ≤ s.trap) && decide (s.trap ≤ 15) && s.value == 0))
  else s.value == 0 && s.trap == 0 && decide (1 ≤ s.frames.length) && decide (s.frames.length ≤ 10)

/-- the heights of function f -/
def HsOf (p : List FnM) (f : Nat) (hs : List Int) : Prop := HRun p (fnAt p f).code (startH (fnAt p f).code.length) (.inl hs)

/-- a frame, with so much on its stack, as the model looks at it: above, the function that it has called, or -1 -/
def standsS (p : List FnM) (hs : List Int) (f : FrM) (above : Int) : Bool :=
  decide ((f.locals.length : Int) = (fnAt p f.func).locals) && decide (0 ≤ f.pc) && decide (f.pc < (fnAt p f.func).code.length) &&
    (if above < 0 then decide (0 ≤ hs.getD f.pc.toNat 0) && decide ((f.stack.length : Int) = hs.getD f.pc.toNat 0)
     else decide (0 < f.pc) && decide (0 ≤ hs.getD (f.pc.toNat - 1) 0) && decide ((fnAt p f.func).code.getD (f.pc.toNat - 1) (0, 0) = (32, above)) && decide ((f.stack.length : Int) = hs.getD f.pc.toNat 0 - 1))

/-- .. and as the program does: last, or not, with the function of the frame behind it -/
def standsI (p : List FnM) (hs : List Int) (f : FrM) (next : Option Int) : Bool :=
  decide (0 ≤ f.pc) && decide (f.pc < (fnAt p f.func).code.length) && decide (0 ≤ hs.getD f.pc.toNat 0) && decide ((f.locals.length : Int) = (fnAt p f.func).locals) &&
    (match next with
     | none => decide ((f.stack.length : Int) = hs.getD f.pc.toNat 0)
     | some g => decide (0 < f.pc) && decide (0 ≤ hs.getD (f.pc.toNat - 1) 0) && decide ((fnAt p f.func).code.getD (f.pc.toNat - 1) (0, 0) = (32, g)) && decide ((f.stack.length : Int) = hs.getD f.pc.toNat 0 - 1))

def nextF (fs : List FrM) (i : Nat) : Option Int := (fs[i + 1]?).map FrM.func

/-- each frame of a list -/
def FrOkI (p : List FnM) (fs : List FrM) (i : Nat) : Prop := ∃ f, fs[i]? = some f ∧ inL f.func p.length = true ∧ ∃ hs, HsOf p f.func.toNat hs ∧ standsI p hs f (nextF fs i) = true
def FrOkS (p : List FnM) (fs : List FrM) (i : Nat) : Prop := ∃ f, fs[i]? = some f ∧ inL f.func p.length = true ∧ ∃ hs, HsOf p f.func.toNat hs ∧ standsS p hs f ((nextF fs i).getD (-1)) = true

def StRightI (p : List FnM) (s : StM) : Prop := RightP p ∧ restOk s = true ∧ toldOk s = true ∧ ∀ i, i < s.frames.length → FrOkI p s.frames i
def StRightS (p : List FnM) (s : StM) : Prop := RightP p ∧ restOk s = true ∧ toldOk s = true ∧ ∀ i, i < s.frames.length → FrOkS p s.frames i

theorem inL_iff {f : Int} {n : Nat} : inL f n = true ↔ 0 ≤ f ∧ f < n := by simp [inL]

theorem frOk_iff {p : List FnM} {fs : List FrM} : (∀ i, i < fs.length → FrOkI p fs i) ↔ (∀ i, i < fs.length → FrOkS p fs i) := by
  constructor
  · intro h i hi
    obtain ⟨f, h1, h2, hs, h3, h4⟩ := h i hi
    refine ⟨f, h1, h2, hs, h3, ?_⟩
    unfold standsI at h4
    unfold standsS
    cases hn : nextF fs i with
    | none =>
      rw [hn] at h4
      simp only [Bool.and_eq_true, decide_eq_true_eq] at h4
      simp only [Option.getD_none, show (-1 : Int) < 0 from by omega, if_true, Bool.and_eq_true, decide_eq_true_eq]
      omega
    | some g =>
      rw [hn] at h4
      have hg : 0 ≤ g := by
        have hl : i + 1 < fs.length := by
          unfold nextF at hn
          rcases Nat.lt_or_ge (i + 1) fs.length with h | h
          · exact h
          · rw [List.getElem?_eq_none h] at hn; cases hn
        obtain ⟨k, k1, k2, _⟩ := h (i + 1) hl
        unfold nextF at hn
        rw [k1] at hn
        simp only [Option.map_some, Option.some.injEq] at hn
        rw [inL_iff] at k2
        omega
      simp only [Bool.and_eq_true, decide_eq_true_eq] at h4
      simp only [Option.getD_some, show ¬ g < 0 by omega, if_false, Bool.and_eq_true, decide_eq_true_eq]
      exact ⟨⟨⟨h4.1.2, h4.1.1.1.1⟩, h4.1.1.1.2⟩, h4.2⟩
  · intro h i hi
    obtain ⟨f, h1, h2, hs, h3, h4⟩ := h i hi
    refine ⟨f, h1, h2, hs, h3, ?_⟩
    unfold standsS at h4
    unfold standsI
    cases hn : nextF fs i with
    | none =>
      rw [hn] at h4
      simp only [Option.getD_none, show (-1 : Int) < 0 from by omega, if_true, Bool.and_eq_true, decide_eq_true_eq] at h4
      simp only [Bool.and_eq_true, decide_eq_true_eq]
      omega
    | some g =>
      rw [hn] at h4
      have hg : 0 ≤ g := by
        have hl : i + 1 < fs.length := by
          unfold nextF at hn
          rcases Nat.lt_or_ge (i + 1) fs.length with h | h
          · exact h
          · rw [List.getElem?_eq_none h] at hn; cases hn
        obtain ⟨k, k1, k2, _⟩ := h (i + 1) hl
        unfold nextF at hn
        rw [k1] at hn
        simp only [Option.map_some, Option.some.injEq] at hn
        rw [inL_iff] at k2
        omega
      simp only [Option.getD_some, show ¬ g < 0 by omega, if_false, Bool.and_eq_true, decide_eq_true_eq] at h4
      simp only [Bool.and_eq_true, decide_eq_true_eq]
      refine ⟨⟨⟨⟨h4.1.1.2, h4.1.2⟩, ?_⟩, h4.1.1.1⟩, h4.2⟩
      have := h4.2.2
      omega

theorem stRight_iff {p : List FnM} {s : StM} : StRightI p s ↔ StRightS p s := by
  unfold StRightI StRightS
  rw [frOk_iff]
end Go.Proofs.YtnknnncehcofnaaGreatDoor

namespace Go.Proofs.YtnknnncehcofnaaGreatDoor
open Go.RowKit

/-- where a right state stands that is not done -/
structure Stand (p : List FnM) (s : StM) (low : List FrM) (f : FrM) (i j : Nat) (hs : List Int) : Prop where
  right : RightP p
  frames : s.frames = low ++ [f]
  func : f.func = i
  hi : i < p.length
  pc : f.pc = j
  hj : j < (fnAt p i).code.length
  hts : HsOf p i hs
  lh : hs.length = (fnAt p i).code.length
  range : ∀ k, k < hs.length → hs.getD k 0 = -1 ∨ (0 ≤ hs.getD k 0 ∧ hs.getD k 0 ≤ 8)
  height : (f.stack.length : Int) = hs.getD j 0
  h8 : f.stack.length ≤ 8
  good : Good p (fnAt p i).code hs j
  loc : (f.locals.length : Int) = (fnAt p i).locals
  loc8 : f.locals.length ≤ 8
  ins : rightM p i (insAt (fnAt p i).code j).1 (insAt (fnAt p i).code j).2 = true
  fuel : 0 < s.fuel ∧ s.fuel ≤ 3000
  told : s.done = false ∧ s.value = 0 ∧ s.trap = 0
  ten : low.length < 10
  heap : s.heap.length ≤ 30 ∧ ∀ a ∈ s.heap, a.length ≤ 50
  out : (s.out.length : Int) ≤ 3000 - s.fuel
  lows : ∀ k, k < low.length → FrOkI p s.frames k

theorem restOk_iff {s : StM} : restOk s = true ↔ (0 ≤ s.fuel ∧ s.fuel ≤ 3000) ∧ (s.heap.length ≤ 30 ∧ ∀ a ∈ s.heap, a.length ≤ 50) ∧ (s.out.length : Int) ≤ 3000 - s.fuel := by
  simp [restOk, heapOk, and_assoc]

theorem stand {p : List FnM} {s : StM} (h : StRightI p s) (hg : goesM s = true) : ∃ low f i j hs, Stand p s low f i j hs := by
  obtain ⟨h1, h2, h3, h4⟩ := h
  simp only [goesM, Bool.and_eq_true, Bool.not_eq_true', decide_eq_true_eq] at hg
  rw [restOk_iff] at h2
  unfold toldOk at h3
  rw [hg.1] at h3
  simp at h3
  obtain ⟨⟨⟨hv, ht⟩, hl1⟩, hl10⟩ := h3
  have hne : s.frames ≠ [] := by intro e; rw [e] at hl1; simp at hl1
  have hfr := (List.dropLast_concat_getLast hne).symm
  obtain ⟨low, hlow⟩ : ∃ low, low = s.frames.dropLast := ⟨_, rfl⟩
  obtain ⟨f, hf⟩ : ∃ f, f = s.frames.getLast hne := ⟨_, rfl⟩
  rw [← hlow, ← hf] at hfr
  have hlen : s.frames.length = low.length + 1 := by rw [hfr]; simp
  obtain ⟨f', e1, e2, hs, e3, e4⟩ := h4 low.length (by omega)
  have hf' : f' = f := by rw [hfr] at e1; simpa using e1.symm
  subst hf'
  rw [inL_iff] at e2
  obtain ⟨i, hi⟩ := Int.eq_ofNat_of_zero_le e2.1
  have hi2 : i < p.length := by omega
  have hnx : nextF s.frames low.length = none := by
    unfold nextF
    rw [List.getElem?_eq_none (by omega)]; rfl
  rw [hnx] at e4
  unfold standsI at e4
  rw [hi] at e3
  rw [show fnAt p f'.func = fnAt p i by rw [hi]] at e4
  simp only [Bool.and_eq_true, decide_eq_true_eq, Int.toNat_natCast] at e3 e4
  obtain ⟨⟨⟨⟨a1, a2⟩, a3⟩, a4⟩, a5⟩ := e4
  obtain ⟨j, hj⟩ := Int.eq_ofNat_of_zero_le a1
  rw [hj] at a2 a3 a5
  simp only [Int.toNat_natCast] at a3 a5
  obtain ⟨hs', b1, b2, b3, b4, b5, b6⟩ := h1.heights i hi2
  have : hs' = hs := by
    have := HRun.unique b1 e3
    simpa using this
  subst this
  have hj2 : j < (fnAt p i).code.length := by omega
  obtain ⟨w1, w2, _⟩ := ((h1.all.2.2 i hi2).well rfl)
  have h8 := b5 j (by omega)
  simp [formOk] at w1
  exact ⟨low, f', i, j, hs', h1, hfr, hi, hi2, hj, hj2, e3, b2, b5, a5, by omega, b6 j (by omega) a3, a4, by omega, w2 j hj2, ⟨hg.2, h2.1.2⟩, ⟨hg.1, hv, ht⟩, by omega, h2.2.1, h2.2.2, fun k hk => h4 k (by omega)⟩

theorem Stand.top {p : List FnM} {s : StM} {low : List FrM} {f : FrM} {i j : Nat} {hs : List Int} (h : Stand p s low f i j hs) : topM s = f ∧ lowM s = low ∧ insM p s = insAt (fnAt p i).code j := by
  have h1 : topM s = f := by unfold topM; rw [h.frames]; simp
  refine ⟨h1, by unfold lowM; rw [h.frames]; simp, ?_⟩
  unfold insM insAt
  rw [h1, h.func, h.pc]
  simp

/-- a frame is looked at with what stands behind it alone -/
theorem FrOkI.same {p : List FnM} {fs gs : List FrM} {k : Nat} (h : FrOkI p fs k) (h1 : gs[k]? = fs[k]?) (h2 : nextF gs k = nextF fs k) : FrOkI p gs k := by
  obtain ⟨f, a, b, hs, c, d⟩ := h
  exact ⟨f, by rw [h1]; exact a, b, hs, c, by rw [h2]; exact d⟩

/-- the frames below stay right where the one on top is of the same function -/
theorem Stand.keep {p : List FnM} {s : StM} {low : List FrM} {f : FrM} {i j : Nat} {hs : List Int} (h : Stand p s low f i j hs) (f' : FrM) (rest : List FrM) (hf : f'.func = f.func) (k : Nat) (hk : k < low.length) : FrOkI p (low ++ f' :: rest) k := by
  refine (h.lows k hk).same ?_ ?_
  · rw [h.frames, List.getElem?_append_left hk, List.getElem?_append_left hk]
  · unfold nextF
    rw [h.frames]
    by_cases he : k + 1 < low.length
    · rw [List.getElem?_append_left he, List.getElem?_append_left he]
    · have : k + 1 = low.length := by omega
      rw [this]
      simp [hf]

/-- the frame on top, at a place to which its instruction goes on -/
theorem Stand.onTop {p : List FnM} {s : StM} {low : List FrM} {f : FrM} {i j : Nat} {hs : List Int} (h : Stand p s low f i j hs) (t : Int) (l st : List Int) (ht : t ∈ goesTo j (insAt (fnAt p i).code j)) (hl : l.length = f.locals.length)
    (hst : (st.length : Int) = f.stack.length - takesM p (insAt (fnAt p i).code j).1 (insAt (fnAt p i).code j).2 + putsM (insAt (fnAt p i).code j).1) : FrOkI p (low ++ [⟨f.func, t, l, st⟩]) low.length := by
  have hgt := goesTo_nat ((h.right.all.2.2 i h.hi).well rfl).2.1 j h.hj t ht
  obtain ⟨g1, g2, g3⟩ := h.good
  obtain ⟨q1, q2⟩ := g3 t ht
  have hh := h.height
  have h8 := h.h8
  obtain ⟨l1, l2⟩ := leaves_plain h.right.args (hh := hs.getD j 0) (i := insAt (fnAt p i).code j) (by omega) (by omega) g1
  refine ⟨⟨f.func, t, l, st⟩, by simp, by rw [inL_iff, h.func]; have := h.hi; omega, hs, by show HsOf p (f.func).toNat hs; rw [h.func]; exact h.hts, ?_⟩
  have hnx : nextF (low ++ [⟨f.func, t, l, st⟩]) low.length = none := by unfold nextF; rw [List.getElem?_eq_none (by simp)]; rfl
  rw [hnx]
  unfold standsI
  simp only [Bool.and_eq_true, decide_eq_true_eq]
  rw [show fnAt p f.func = fnAt p i by rw [h.func], hl]
  exact ⟨⟨⟨⟨hgt, q1⟩, by omega⟩, h.loc⟩, by omega⟩

/-- all of the state, with its frames -/
theorem Stand.all {p : List FnM} {s : StM} {low : List FrM} {f : FrM} {i j : Nat} {hs : List Int} (h : Stand p s low f i j hs) (s' : StM) (hfu : s'.fuel = s.fuel - 1) (hhp : s'.heap.length ≤ 30 ∧ ∀ a ∈ s'.heap, a.length ≤ 50) (ho : s'.out.length ≤ s.out.length + 1)
    (ht : toldOk s' = true) (hfr : ∀ k, k < s'.frames.length → FrOkI p s'.frames k) : StRightI p s' := by
  have hf := h.fuel
  have hout := h.out
  exact ⟨h.right, restOk_iff.2 ⟨by omega, hhp, by omega⟩, ht, hfr⟩

theorem Stand.withM {p : List FnM} {s : StM} {low : List FrM} {f : FrM} {i j : Nat} {hs : List Int} (h : Stand p s low f i j hs) (t : Int) (l st : List Int) (hp : List (List Int)) (o : List Int) (hhp : hp.length ≤ 30 ∧ ∀ a ∈ hp, a.length ≤ 50) (ho : o.length ≤ s.out.length + 1)
    (ht : t ∈ goesTo j (insAt (fnAt p i).code j)) (hl : l.length = f.locals.length)
    (hst : (st.length : Int) = f.stack.length - takesM p (insAt (fnAt p i).code j).1 (insAt (fnAt p i).code j).2 + putsM (insAt (fnAt p i).code j).1) : StRightI p { Go.Proofs.YtnknnncehcofnaaGreatDoor.withM s ⟨f.func, t, l, st⟩ with heap := hp, out := o } := by
  have hlow := h.top.2.1
  have hten := h.ten
  refine h.all _ rfl hhp ho ?_ fun k hk => ?_
  · show toldOk ⟨lowM s ++ [⟨f.func, t, l, st⟩], hp, o, s.fuel - 1, s.done, s.value, s.trap⟩ = true
    obtain ⟨d1, d2, d3⟩ := h.told
    rw [hlow]
    unfold toldOk
    rw [d1, d2, d3]
    simp
    omega
  · show FrOkI p (lowM s ++ [⟨f.func, t, l, st⟩]) k
    have hk' : k < (lowM s ++ [⟨f.func, t, l, st⟩] : List FrM).length := hk
    rw [hlow] at hk' ⊢
    simp at hk'
    by_cases he : k < low.length
    · exact h.keep ⟨f.func, t, l, st⟩ [] rfl k he
    · have : k = low.length := by omega
      subst this
      exact h.onTop t l st ht hl hst

theorem Stand.trap {p : List FnM} {s : StM} {low : List FrM} {f : FrM} {i j : Nat} {hs : List Int} (h : Stand p s low f i j hs) (hp : List (List Int)) (t : Int) (hhp : hp.length ≤ 30 ∧ ∀ a ∈ hp, a.length ≤ 50) (ht : 11 ≤ t ∧ t ≤ 15) : StRightI p (trapM s hp t) := by
  refine h.all _ rfl hhp (by simp [trapM]) ?_ fun k hk => absurd hk (by simp [trapM])
  show toldOk ⟨[], hp, s.out, s.fuel - 1, true, s.value, t⟩ = true
  unfold toldOk
  rw [h.told.2.1]
  simp
  omega

theorem doM_trap (op : Int) (v : List Int) (hp : List (List Int)) : (doM op v hp).1.2 ≠ 0 → 11 ≤ (doM op v hp).1.2 ∧ (doM op v hp).1.2 ≤ 15 := by
  unfold doM
  dsimp only
  split
  · unfold binT; split <;> simp
  split
  · simp
  split
  · split <;> simp
  split
  · simp
  split
  · simp
  split
  · simp
  split <;> simp

theorem takes_other (p : List FnM) (op a : Int) (h : op ≠ 32) : takesM p op a = (opRow op).2.2.1 := by unfold takesM; rw [if_neg h]
theorem goes_next (j : Nat) (c : Int × Int) (h : c.1 ≠ 30 ∧ c.1 ≠ 33) : ((j : Int) + 1) ∈ goesTo j c := by
  unfold goesTo
  rw [if_neg (by omega)]
  simp
theorem goes_jump (j : Nat) (c : Int × Int) (h : c.1 = 30 ∨ c.1 = 31) : c.2 ∈ goesTo j c := by
  unfold goesTo
  rw [if_pos h]
  simp

/-- ops that stand right -/
theorem right_op {p : List FnM} {f : Nat} {op a : Int} (h : rightM p f op a = true) : (1 ≤ op ∧ op ≤ 5) ∨ (10 ≤ op ∧ op ≤ 38) := by
  unfold rightM at h
  rw [Bool.and_eq_true] at h
  have h2 := h.2
  by_cases h1 : op = 1
  · omega
  rw [if_neg h1] at h2
  by_cases h3 : op = 2 ∨ op = 3
  · omega
  rw [if_neg h3] at h2
  by_cases h4 : op = 30 ∨ op = 31
  · omega
  rw [if_neg h4] at h2
  by_cases h5 : op = 32
  · omega
  rw [if_neg h5] at h2
  simp only [Bool.and_eq_true] at h2
  have h6 := h2.1
  revert h6
  refine opRow_of op (P := fun r => (!r.1.isEmpty) = true → _) (fun _ h => by simp at h) (fun k hk he => ?_)
  subst he
  have : ∀ k : Fin 39, (!(opN k.1).1.isEmpty) = true → (1 ≤ k.1 ∧ k.1 ≤ 5) ∨ (10 ≤ k.1 ∧ k.1 ≤ 38) := by decide
  intro h
  have := this ⟨k, hk⟩ h
  simp only at this
  omega
end Go.Proofs.YtnknnncehcofnaaGreatDoor

namespace Go.Proofs.YtnknnncehcofnaaGreatDoor
open Go.RowKit

/-- the lists of a state -/
inductive Tag where
  | no | fr | hp | out
  | loc (i : Nat) | stk (i : Nat) | arr (i : Nat)
  deriving DecidableEq

/-- what a call has written: nothing but cells of S, in blocks from B on -/
structure Wrote (B : Nat) (S : Nat → Nat → Prop) (w w' : World) : Prop where
  os : w'.os = w.os
  tape : w'.tape = w.tape
  output : w'.output = w.output
  size : w'.heap.size = w.heap.size
  low : ∀ b, b < B → w'.heap[b]? = w.heap[b]?
  cell : ∀ b j, ¬ S b j → w'.cell? ⟨b, j, none⟩ = w.cell? ⟨b, j, none⟩
  is : ∀ b j, (w.cell? ⟨b, j, none⟩).isSome = true → (w'.cell? ⟨b, j, none⟩).isSome = true
  thaw : ∀ b j, w'.frozen? ⟨b, j, none⟩ = w.frozen? ⟨b, j, none⟩

theorem Wrote.refl (B : Nat) (S : Nat → Nat → Prop) (w : World) : Wrote B S w w := ⟨rfl, rfl, rfl, rfl, fun _ _ => rfl, fun _ _ _ => rfl, fun _ _ h => h, fun _ _ => rfl⟩
theorem Wrote.trans {B : Nat} {S : Nat → Nat → Prop} {a b c : World} (h : Wrote B S a b) (k : Wrote B S b c) : Wrote B S a c :=
  ⟨k.os.trans h.os, k.tape.trans h.tape, k.output.trans h.output, k.size.trans h.size, fun i hi => (k.low i hi).trans (h.low i hi), fun i j hs => (k.cell i j hs).trans (h.cell i j hs), fun i j hi => k.is i j (h.is i j hi), fun i j => (k.thaw i j).trans (h.thaw i j)⟩
theorem Wrote.mono {B : Nat} {S S' : Nat → Nat → Prop} {a b : World} (h : Wrote B S a b) (hs : ∀ i j, S i j → S' i j) : Wrote B S' a b :=
  ⟨h.os, h.tape, h.output, h.size, h.low, fun i j hn => h.cell i j (fun k => hn (hs i j k)), h.is, h.thaw⟩
theorem Wrote.below {B : Nat} {S : Nat → Nat → Prop} {a b : World} (h : Wrote B S a b) : Below B a b := ⟨h.os, h.tape, h.output, Nat.le_of_eq h.size.symm, h.low⟩
theorem Wrote.set {B : Nat} {S : Nat → Nat → Prop} (w : World) (b j : Nat) (u : Value) (hS : S b j) (hB : B ≤ b) : Wrote B S w (w.setCell ⟨b, j, none⟩ u) := by
  refine ⟨rfl, rfl, rfl, by simp, fun i hi => Below.heap_setCell w _ _ i (fun e => by simp at e; omega), fun i k hn => ?_, fun i k hi => ?_, fun i k => by simp⟩
  · exact World.cell?_setCell_other _ _ _ _ (by intro e; simp at e; obtain ⟨rfl, rfl⟩ := e; exact hn hS)
  · by_cases e : (⟨i, k, none⟩ : Addr) = ⟨b, j, none⟩
    · rw [e] at hi ⊢
      obtain ⟨z, hz⟩ := Option.isSome_iff_exists.1 hi
      rw [World.cell?_setCell_same _ _ _ hz]
      rfl
    · rw [World.cell?_setCell_other _ _ _ _ (fun h => e h.symm)]
      exact hi

/-- all of a slice's room belongs to one list, and may be written -/
def Room (own : Nat → Nat → Tag) (B : Nat) (w : World) (v : Value) (size : Nat) (t : Tag) : Prop :=
  ∃ A n cap, v = .slice A n cap ∧ n ≤ cap ∧ ∀ j, j < cap * size → ∃ b off, A = some ⟨b, off, none⟩ ∧ B ≤ b ∧ b < w.heap.size ∧ (w.cell? ⟨b, off + j, none⟩).isSome = true ∧ w.frozen? ⟨b, off + j, none⟩ = false ∧ own b (off + j) = t

theorem Room.wrote {own : Nat → Nat → Tag} {B B' size : Nat} {w w' : World} {v : Value} {t : Tag} {S : Nat → Nat → Prop} (h : Room own B w v size t) (hw : Wrote B' S w w') : Room own B w' v size t := by
  obtain ⟨A, n, cap, rfl, hn, hr⟩ := h
  refine ⟨A, n, cap, rfl, hn, fun j hj => ?_⟩
  obtain ⟨b, off, h1, h2, h3, h4, h5, h6⟩ := hr j hj
  exact ⟨b, off, h1, h2, by rw [hw.size]; exact h3, hw.is _ _ h4, by rw [hw.thaw]; exact h5, h6⟩

theorem Room.below {own : Nat → Nat → Tag} {B size : Nat} {w w' : World} {v : Value} {t : Tag} (h : Room own B w v size t) (hb : Below w.heap.size w w') : Room own B w' v size t := by
  obtain ⟨A, n, cap, rfl, hn, hr⟩ := h
  refine ⟨A, n, cap, rfl, hn, fun j hj => ?_⟩
  obtain ⟨b, off, h1, h2, h3, h4, h5, h6⟩ := hr j hj
  exact ⟨b, off, h1, h2, Nat.lt_of_lt_of_le h3 hb.size, by rw [hb.cell (by exact h3)]; exact h4, by rw [hb.frozen (by exact h3)]; exact h5, h6⟩

/-- a slice of numbers, kept where other lists are written -/
theorem IRow.wrote {own : Nat → Nat → Tag} {B B' : Nat} {w w' : World} {v : Value} {zs : List Int} {t : Tag} {S : Nat → Nat → Prop} (h : IRow B w v zs) (hr : Room own B w v 1 t) (hw : Wrote B' S w w') (hS : ∀ b j, S b j → own b j ≠ t) : IRow B w' v zs := by
  obtain ⟨A, cap, rfl, hn, hc⟩ := h
  obtain ⟨A', n', cap', he, hn', hr⟩ := hr
  simp only [Value.slice.injEq] at he
  obtain ⟨rfl, rfl, rfl⟩ := he
  refine ⟨A, cap, rfl, hn, fun i hi => ?_⟩
  obtain ⟨b, off, rfl, h1, h2, h3⟩ := hc i hi
  obtain ⟨b', off', e, _, _, _, _, h6⟩ := hr i (by omega)
  simp only [Option.some.injEq, Addr.mk.injEq, and_true] at e
  obtain ⟨rfl, rfl⟩ := e
  exact ⟨b, off, rfl, h1, by rw [hw.size]; exact h2, by rw [hw.cell b (off + i) (fun hs => hS _ _ hs h6)]; exact h3⟩

/-- frames of the call's own; X, Y: the slices of their locals and stacks -/
structure OwnFr (own : Nat → Nat → Tag) (B : Nat) (w : World) (x : Value) (fs : List FrM) (X Y : Nat → Value) : Prop where
  len : fs.length ≤ 1048576
  form : ∃ A cap, x = .slice A fs.length cap
  room : Room own B w x 4 .fr
  head : ∀ i (h : i < fs.length), ∃ b off cap, x = .slice (some ⟨b, off, none⟩) fs.length cap ∧ w.cell? ⟨b, off + i * 4, none⟩ = some (.int .i64 fs[i].func) ∧ w.cell? ⟨b, off + i * 4 + 1, none⟩ = some (.int .i64 fs[i].pc) ∧ w.cell? ⟨b, off + i * 4 + 2, none⟩ = some (X i) ∧ w.cell? ⟨b, off + i * 4 + 3, none⟩ = some (Y i)
  loc : ∀ i (h : i < fs.length), IRow B w (X i) fs[i].locals ∧ Room own B w (X i) 1 (.loc i)
  stk : ∀ i (h : i < fs.length), IRow B w (Y i) fs[i].stack ∧ Room own B w (Y i) 1 (.stk i)

/-- where a frame's four cells lie -/
theorem OwnFr.at {own : Nat → Nat → Tag} {B : Nat} {w : World} {x : Value} {fs : List FrM} {X Y : Nat → Value} (h : OwnFr own B w x fs X Y) (i : Nat) (hi : i < fs.length) :
    ∃ b off cap, x = .slice (some ⟨b, off, none⟩) fs.length cap ∧ B ≤ b ∧ b < w.heap.size ∧ w.cell? ⟨b, off + i * 4, none⟩ = some (.int .i64 fs[i].func) ∧ w.cell? ⟨b, off + i * 4 + 1, none⟩ = some (.int .i64 fs[i].pc) ∧ w.cell? ⟨b, off + i * 4 + 2, none⟩ = some (X i) ∧ w.cell? ⟨b, off + i * 4 + 3, none⟩ = some (Y i) ∧ ∀ q, q < 4 → w.frozen? ⟨b, off + i * 4 + q, none⟩ = false ∧ own b (off + i * 4 + q) = .fr := by
  obtain ⟨b, off, cap, rfl, h1, h2, h3, h4⟩ := h.head i hi
  obtain ⟨A', n', cap', he, hn', hr⟩ := h.room
  simp only [Value.slice.injEq] at he
  obtain ⟨rfl, rfl, rfl⟩ := he
  have hall : ∀ q, q < 4 → B ≤ b ∧ b < w.heap.size ∧ w.frozen? ⟨b, off + i * 4 + q, none⟩ = false ∧ own b (off + i * 4 + q) = .fr := fun q hq => by
    obtain ⟨b', off', e, k1, k2, _, k4, k5⟩ := hr (i * 4 + q) (by omega)
    simp only [Option.some.injEq, Addr.mk.injEq, and_true] at e
    obtain ⟨rfl, rfl⟩ := e
    rw [← Nat.add_assoc] at k4 k5
    exact ⟨k1, k2, k4, k5⟩
  obtain ⟨k1, k2, _, _⟩ := hall 0 (by omega)
  exact ⟨b, off, cap, rfl, k1, k2, h1, h2, h3, h4, fun q hq => ⟨(hall q hq).2.2.1, (hall q hq).2.2.2⟩⟩

theorem OwnFr.row {own : Nat → Nat → Tag} {B : Nat} {w : World} {x : Value} {fs : List FrM} {X Y : Nat → Value} (h : OwnFr own B w x fs X Y) : FrRow B w x fs := by
  obtain ⟨A, cap, rfl⟩ := h.form
  refine ⟨A, cap, rfl, by have := h.len; omega, fun i hi => ?_⟩
  obtain ⟨b, off, cap', e, h1, h2, h3, h4, h5, h6, _⟩ := h.at i hi
  simp only [Value.slice.injEq] at e
  obtain ⟨rfl, _, _⟩ := e
  exact ⟨b, off, X i, Y i, rfl, h1, h2, h3, h4, h5, h6, (h.loc i hi).1, (h.stk i hi).1⟩

theorem OwnFr.below {own : Nat → Nat → Tag} {B : Nat} {w w' : World} {x : Value} {fs : List FrM} {X Y : Nat → Value} (h : OwnFr own B w x fs X Y) (hb : Below w.heap.size w w') : OwnFr own B w' x fs X Y := by
  refine ⟨h.len, h.form, h.room.below hb, fun i hi => ?_, fun i hi => ⟨(h.loc i hi).1.below hb, (h.loc i hi).2.below hb⟩, fun i hi => ⟨(h.stk i hi).1.below hb, (h.stk i hi).2.below hb⟩⟩
  obtain ⟨b, off, cap, e, h1, h2, h3, h4, h5, h6, _⟩ := h.at i hi
  exact ⟨b, off, cap, e, by rw [hb.cell (by exact h2)]; exact h3, by rw [hb.cell (by exact h2)]; exact h4, by rw [hb.cell (by exact h2)]; exact h5, by rw [hb.cell (by exact h2)]; exact h6⟩

/-- where what is written is neither theirs nor their lists' -/
theorem OwnFr.wrote {own : Nat → Nat → Tag} {B B' : Nat} {w w' : World} {x : Value} {fs : List FrM} {X Y : Nat → Value} {S : Nat → Nat → Prop} (h : OwnFr own B w x fs X Y) (hw : Wrote B' S w w') (hS : ∀ b j, S b j → own b j ≠ .fr ∧ ∀ i, own b j ≠ .loc i ∧ own b j ≠ .stk i) : OwnFr own B w' x fs X Y := by
  refine ⟨h.len, h.form, h.room.wrote hw, fun i hi => ?_, fun i hi => ⟨(h.loc i hi).1.wrote (h.loc i hi).2 hw (fun b j hs => ((hS b j hs).2 i).1), (h.loc i hi).2.wrote hw⟩, fun i hi => ⟨(h.stk i hi).1.wrote (h.stk i hi).2 hw (fun b j hs => ((hS b j hs).2 i).2), (h.stk i hi).2.wrote hw⟩⟩
  obtain ⟨b, off, cap, e, h1, h2, h3, h4, h5, h6, h7⟩ := h.at i hi
  have hc : ∀ q, q < 4 → w'.cell? ⟨b, off + i * 4 + q, none⟩ = w.cell? ⟨b, off + i * 4 + q, none⟩ := fun q hq => hw.cell _ _ (fun hs => (hS _ _ hs).1 (h7 q hq).2)
  exact ⟨b, off, cap, e, by have := hc 0 (by omega); rw [Nat.add_zero] at this; rw [this]; exact h3, by rw [hc 1 (by omega)]; exact h4, by rw [hc 2 (by omega)]; exact h5, by rw [hc 3 (by omega)]; exact h6⟩

/-- a frame's locals are written -/
theorem OwnFr.setLoc {own : Nat → Nat → Tag} {B B' : Nat} {w w' : World} {x : Value} {fs : List FrM} {X Y : Nat → Value} (h : OwnFr own B w x fs X Y) (q : Nat) (hq : q < fs.length) (hw : Wrote B' (fun b j => own b j = .loc q) w w') (l : List Int) (hl : IRow B w' (X q) l) : OwnFr own B w' x (fs.set q ⟨fs[q].func, fs[q].pc, l, fs[q].stack⟩) X Y := by
  have hg : ∀ i (hi : i < (fs.set q ⟨fs[q].func, fs[q].pc, l, fs[q].stack⟩).length), (fs.set q ⟨fs[q].func, fs[q].pc, l, fs[q].stack⟩)[i].func = (fs[i]'(by simpa using hi)).func ∧ (fs.set q ⟨fs[q].func, fs[q].pc, l, fs[q].stack⟩)[i].pc = (fs[i]'(by simpa using hi)).pc ∧ (fs.set q ⟨fs[q].func, fs[q].pc, l, fs[q].stack⟩)[i].stack = (fs[i]'(by simpa using hi)).stack := fun i hi => by
    rw [List.getElem_set]
    split
    · rename_i e; subst e; exact ⟨rfl, rfl, rfl⟩
    · exact ⟨rfl, rfl, rfl⟩
  refine ⟨by simpa using h.len, by simpa using h.form, h.room.wrote hw, fun i hi => ?_, fun i hi => ?_, fun i hi => ?_⟩
  · have hi' : i < fs.length := by simpa using hi
    obtain ⟨g1, g2, _⟩ := hg i hi
    obtain ⟨b, off, cap, e, h1, h2, h3, h4, h5, h6, h7⟩ := h.at i hi'
    have hc : ∀ q', q' < 4 → w'.cell? ⟨b, off + i * 4 + q', none⟩ = w.cell? ⟨b, off + i * 4 + q', none⟩ := fun q' hq' => hw.cell _ _ (fun hs => by rw [(h7 q' hq').2] at hs; cases hs)
    rw [g1, g2]
    exact ⟨b, off, cap, by simpa using e, by have := hc 0 (by omega); rw [Nat.add_zero] at this; rw [this]; exact h3, by rw [hc 1 (by omega)]; exact h4, by rw [hc 2 (by omega)]; exact h5, by rw [hc 3 (by omega)]; exact h6⟩
  · have hi' : i < fs.length := by simpa using hi
    refine ⟨?_, (h.loc i hi').2.wrote hw⟩
    rw [List.getElem_set]
    split
    · rename_i e; subst e; exact hl
    · rename_i e; exact (h.loc i hi').1.wrote (h.loc i hi').2 hw (fun b j hs => by rw [hs]; intro k; cases k; exact e rfl)
  · have hi' : i < fs.length := by simpa using hi
    rw [(hg i hi).2.2]
    exact ⟨(h.stk i hi').1.wrote (h.stk i hi').2 hw (fun b j hs => by rw [hs]; intro k; cases k), (h.stk i hi').2.wrote hw⟩

/-- .. its stack -/
theorem OwnFr.setStk {own : Nat → Nat → Tag} {B B' : Nat} {w w' : World} {x : Value} {fs : List FrM} {X Y : Nat → Value} (h : OwnFr own B w x fs X Y) (q : Nat) (hq : q < fs.length) (hw : Wrote B' (fun b j => own b j = .stk q) w w') (l : List Int) (hl : IRow B w' (Y q) l) : OwnFr own B w' x (fs.set q ⟨fs[q].func, fs[q].pc, fs[q].locals, l⟩) X Y := by
  have hg : ∀ i (hi : i < (fs.set q ⟨fs[q].func, fs[q].pc, fs[q].locals, l⟩).length), (fs.set q ⟨fs[q].func, fs[q].pc, fs[q].locals, l⟩)[i].func = (fs[i]'(by simpa using hi)).func ∧ (fs.set q ⟨fs[q].func, fs[q].pc, fs[q].locals, l⟩)[i].pc = (fs[i]'(by simpa using hi)).pc ∧ (fs.set q ⟨fs[q].func, fs[q].pc, fs[q].locals, l⟩)[i].locals = (fs[i]'(by simpa using hi)).locals := fun i hi => by
    rw [List.getElem_set]
    split
    · rename_i e; subst e; exact ⟨rfl, rfl, rfl⟩
    · exact ⟨rfl, rfl, rfl⟩
  refine ⟨by simpa using h.len, by simpa using h.form, h.room.wrote hw, fun i hi => ?_, fun i hi => ?_, fun i hi => ?_⟩
  · have hi' : i < fs.length := by simpa using hi
    obtain ⟨g1, g2, _⟩ := hg i hi
    obtain ⟨b, off, cap, e, h1, h2, h3, h4, h5, h6, h7⟩ := h.at i hi'
    have hc : ∀ q', q' < 4 → w'.cell? ⟨b, off + i * 4 + q', none⟩ = w.cell? ⟨b, off + i * 4 + q', none⟩ := fun q' hq' => hw.cell _ _ (fun hs => by rw [(h7 q' hq').2] at hs; cases hs)
    rw [g1, g2]
    exact ⟨b, off, cap, by simpa using e, by have := hc 0 (by omega); rw [Nat.add_zero] at this; rw [this]; exact h3, by rw [hc 1 (by omega)]; exact h4, by rw [hc 2 (by omega)]; exact h5, by rw [hc 3 (by omega)]; exact h6⟩
  · have hi' : i < fs.length := by simpa using hi
    rw [(hg i hi).2.2]
    exact ⟨(h.loc i hi').1.wrote (h.loc i hi').2 hw (fun b j hs => by rw [hs]; intro k; cases k), (h.loc i hi').2.wrote hw⟩
  · have hi' : i < fs.length := by simpa using hi
    refine ⟨?_, (h.stk i hi').2.wrote hw⟩
    rw [List.getElem_set]
    split
    · rename_i e; subst e; exact hl
    · rename_i e; exact (h.stk i hi').1.wrote (h.stk i hi').2 hw (fun b j hs => by rw [hs]; intro k; cases k; exact e rfl)

/-- .. its function and place -/
theorem OwnFr.setFunc {own : Nat → Nat → Tag} {B b off n cap : Nat} {w : World} {fs : List FrM} {X Y : Nat → Value} (h : OwnFr own B w (.slice (some ⟨b, off, none⟩) n cap) fs X Y) (q : Nat) (hq : q < fs.length) (u : Int) : OwnFr own B (w.setCell ⟨b, off + q * 4, none⟩ (.int .i64 u)) (.slice (some ⟨b, off, none⟩) n cap) (fs.set q ⟨u, fs[q].pc, fs[q].locals, fs[q].stack⟩) X Y ∧ Wrote B (fun b j => own b j = .fr) w (w.setCell ⟨b, off + q * 4, none⟩ (.int .i64 u)) := by
  obtain ⟨b0, off0, cap0, e0, hB, hlt, c0, c1, c2, c3, h7⟩ := h.at q hq
  simp only [Value.slice.injEq, Option.some.injEq, Addr.mk.injEq, and_true] at e0
  obtain ⟨⟨rfl, rfl⟩, hn0, rfl⟩ := e0
  have hw : Wrote B (fun b j => own b j = .fr) w (w.setCell ⟨b, off + q * 4, none⟩ (.int .i64 u)) := Wrote.set _ _ _ _ (by have := (h7 0 (by omega)).2; rwa [Nat.add_zero] at this) hB
  refine ⟨⟨by simpa using h.len, by simpa using h.form, h.room.wrote hw, fun i hi => ?_, fun i hi => ?_, fun i hi => ?_⟩, hw⟩
  · have hi' : i < fs.length := by simpa using hi
    obtain ⟨b1, off1, cap1, e, _, _, h3, h4, h5, h6, _⟩ := h.at i hi'
    simp only [Value.slice.injEq, Option.some.injEq, Addr.mk.injEq, and_true] at e
    obtain ⟨⟨rfl, rfl⟩, _, rfl⟩ := e
    refine ⟨b, off, cap, by simp [hn0], ?_, ?_, by rw [cell_set_far _ _ _ _ _ (by omega)]; exact h5, by rw [cell_set_far _ _ _ _ _ (by omega)]; exact h6⟩
    · by_cases e : q = i
      · subst e; rw [World.cell?_setCell_same _ _ _ c0]; simp
      · rw [cell_set_far _ _ _ _ _ (by omega), List.getElem_set, if_neg e]; exact h3
    · rw [cell_set_far _ _ _ _ _ (by omega), List.getElem_set]
      split
      · rename_i e; subst e; exact h4
      · exact h4
  · have hi' : i < fs.length := by simpa using hi
    have e : (fs.set q ⟨u, fs[q].pc, fs[q].locals, fs[q].stack⟩)[i].locals = fs[i].locals := by rw [List.getElem_set]; split; (rename_i e; subst e; rfl); rfl
    rw [e]
    exact ⟨(h.loc i hi').1.wrote (h.loc i hi').2 hw (fun b j hs => by rw [hs]; intro k; cases k), (h.loc i hi').2.wrote hw⟩
  · have hi' : i < fs.length := by simpa using hi
    have e : (fs.set q ⟨u, fs[q].pc, fs[q].locals, fs[q].stack⟩)[i].stack = fs[i].stack := by rw [List.getElem_set]; split; (rename_i e; subst e; rfl); rfl
    rw [e]
    exact ⟨(h.stk i hi').1.wrote (h.stk i hi').2 hw (fun b j hs => by rw [hs]; intro k; cases k), (h.stk i hi').2.wrote hw⟩

theorem OwnFr.setPc {own : Nat → Nat → Tag} {B b off n cap : Nat} {w : World} {fs : List FrM} {X Y : Nat → Value} (h : OwnFr own B w (.slice (some ⟨b, off, none⟩) n cap) fs X Y) (q : Nat) (hq : q < fs.length) (u : Int) : OwnFr own B (w.setCell ⟨b, off + q * 4 + 1, none⟩ (.int .i64 u)) (.slice (some ⟨b, off, none⟩) n cap) (fs.set q ⟨fs[q].func, u, fs[q].locals, fs[q].stack⟩) X Y ∧ Wrote B (fun b j => own b j = .fr) w (w.setCell ⟨b, off + q * 4 + 1, none⟩ (.int .i64 u)) := by
  obtain ⟨b0, off0, cap0, e0, hB, hlt, c0, c1, c2, c3, h7⟩ := h.at q hq
  simp only [Value.slice.injEq, Option.some.injEq, Addr.mk.injEq, and_true] at e0
  obtain ⟨⟨rfl, rfl⟩, hn0, rfl⟩ := e0
  have hw : Wrote B (fun b j => own b j = .fr) w (w.setCell ⟨b, off + q * 4 + 1, none⟩ (.int .i64 u)) := Wrote.set _ _ _ _ (h7 1 (by omega)).2 hB
  refine ⟨⟨by simpa using h.len, by simpa using h.form, h.room.wrote hw, fun i hi => ?_, fun i hi => ?_, fun i hi => ?_⟩, hw⟩
  · have hi' : i < fs.length := by simpa using hi
    obtain ⟨b1, off1, cap1, e, _, _, h3, h4, h5, h6, _⟩ := h.at i hi'
    simp only [Value.slice.injEq, Option.some.injEq, Addr.mk.injEq, and_true] at e
    obtain ⟨⟨rfl, rfl⟩, _, rfl⟩ := e
    refine ⟨b, off, cap, by simp [hn0], ?_, ?_, by rw [cell_set_far _ _ _ _ _ (by omega)]; exact h5, by rw [cell_set_far _ _ _ _ _ (by omega)]; exact h6⟩
    · rw [cell_set_far _ _ _ _ _ (by omega), List.getElem_set]
      split
      · rename_i e; subst e; exact h3
      · exact h3
    · by_cases e : q = i
      · subst e; rw [World.cell?_setCell_same _ _ _ c1]; simp
      · rw [cell_set_far _ _ _ _ _ (by omega), List.getElem_set, if_neg e]; exact h4
  · have hi' : i < fs.length := by simpa using hi
    have e : (fs.set q ⟨fs[q].func, u, fs[q].locals, fs[q].stack⟩)[i].locals = fs[i].locals := by rw [List.getElem_set]; split; (rename_i e; subst e; rfl); rfl
    rw [e]
    exact ⟨(h.loc i hi').1.wrote (h.loc i hi').2 hw (fun b j hs => by rw [hs]; intro k; cases k), (h.loc i hi').2.wrote hw⟩
  · have hi' : i < fs.length := by simpa using hi
    have e : (fs.set q ⟨fs[q].func, u, fs[q].locals, fs[q].stack⟩)[i].stack = fs[i].stack := by rw [List.getElem_set]; split; (rename_i e; subst e; rfl); rfl
    rw [e]
    exact ⟨(h.stk i hi').1.wrote (h.stk i hi').2 hw (fun b j hs => by rw [hs]; intro k; cases k), (h.stk i hi').2.wrote hw⟩
end Go.Proofs.YtnknnncehcofnaaGreatDoor
