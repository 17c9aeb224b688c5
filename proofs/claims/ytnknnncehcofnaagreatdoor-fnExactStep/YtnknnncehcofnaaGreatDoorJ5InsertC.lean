/- slices.Insert of one number where there is no room. slices.Insert of one number into a slice of the call's own. Heights, as a plain account: what waits, one turn at a place, the run of turns and what it comes to; that turns come to an end. -/
import Derived.Test.YtnknnncehcofnaaGreatDoorJ4StepP
import Derived.Test.YtnknnncehcofnaaGreatDoorJ2TakesW
namespace Go.Proofs.YtnknnncehcofnaaGreatDoor
open Go.RowKit Go.Lib

set_option maxRecDepth 100000 in
set_option maxHeartbeats 1600000 in
theorem insertGrow {B : Nat} (b off cap : Nat) (zs : List Int) (i : Nat) (x : Int) (vb : Nat) (w : World) (h : OwnAt B w b off cap zs) (hi : i ≤ zs.length) (hin' : i < zs.length) (hc : ¬ zs.length + 1 ≤ cap) (hl : zs.length ≤ 1048576) (hB : B ≤ w.heap.size)
    (hv : w.heap[vb]? = some (.cells #[.int .i64 x] 2 (0, 0))) (_ : vb ≠ b) :
    Calls Tryz.prog 236 #[.slice (some ⟨b, off, none⟩) zs.length cap, .int .i64 i, .slice (some ⟨vb, 0, none⟩) 1 1] w fun e w' =>
      ∃ b' off' cap', e = .returned (.slice (some ⟨b', off', none⟩) (zs.length + 1) cap') ∧ OwnAt B w' b' off' cap' (putAt zs i x) ∧ w.grownBy w' (some b) ∧ (b' = b ∨ w.heap.size ≤ b') := by
  have Hh : Hid (OwnAt B w b off cap zs) := h
  have htop : cap ≤ 9223372036854775807 := h.top
  have hroom := h.room
  have hpl := putAt_length zs i x hi
  have hpg := putAt_get zs i x hi
  have Hpl : Hid (_ = _) := hpl
  have Hpg : Hid (∀ j (hj : j < (putAt zs i x).length), (j < i → zs[j]? = some (putAt zs i x)[j]) ∧ (j = i → (putAt zs i x)[j] = x) ∧ (i < j → zs[j - 1]? = some (putAt zs i x)[j])) := hpg
  have Hv : Hid (w.heap[vb]? = some (.cells #[.int .i64 x] 2 (0, 0))) := hv
  have hvc : w.cell? ⟨vb, 0, none⟩ = some (.int .i64 x) := by simp [World.cell?, hv]
  have hvs : ∀ j u, [Value.int .i64 x][j]? = some u → w.cell? ((⟨vb, 0, none⟩ : Addr).add j) = some u := fun j u hj => by
    cases j with
    | zero => simp at hj; subst hj; rw [Addr.add_lit]; exact hvc
    | succ j => simp at hj
  have hv1 : ∀ u ∈ [Value.int .i64 x], u.oneCell' = true := fun u hu => by simp at hu; subst hu; rfl
  obtain ⟨i0, hi0, hz0, hzs, hzb⟩ := info_parts Tryz.info64
  have hsz1 : (Tryz.prog.info? 2).map (·.size) = some 1 := by rw [hi0]; simp [hzs]
  have hsrc : Src Tryz.prog 1 28 (.slice (some ⟨vb, 0, none⟩) 1 1) 1 [.int .i64 x] w := Src.ofSlice w Tryz.underlying28 ⟨vb, 0, none⟩ 1 1 [.int .i64 x] (by simp) hvs hv1
  have hold : ∀ k, k ≤ zs.length → (Builtin.firstCells i0.size k (.slice (some ⟨b, off, none⟩) k cap)).run Tryz.prog w.drew = .ok (ints (zs.take k)).toArray w.drew := fun k hk => by
    rw [hzs]
    exact run_firstCells_some w.drew 1 k ⟨b, off, none⟩ k cap (ints (zs.take k)) (by simp [ints]; omega) (fun j v hj => by
      rw [Addr.add_lit]
      have hj' : j < k := by
        have := (List.getElem?_eq_some_iff.1 hj).1
        simp [ints] at this
        omega
      have := h.cells j (by omega)
      show w.cell? _ = _
      rw [this, ← hj]
      simp [ints, hj', show j < zs.length by omega])
  clear h hv hpl hpg
  have hdl : (ints (zs.drop i)).length = zs.length - i := by simp [ints]
  have hz2 : ¬ ((i : Int) = (zs.length : Int)) := by omega
  have hcs : ∀ j u, (ints (zs.drop i))[j]? = some u → w.cell? ⟨b, off + (i + j), none⟩ = some u := fun j u hj => by
    have hj' := (List.getElem?_eq_some_iff.1 hj).1
    rw [hdl] at hj'
    rw [Hh.out.cells (i + j) (by omega), ← hj]
    simp [ints, show i + j < zs.length by omega]
  have hkk : (zs.length : Int) + 1 - (i : Int) = ((zs.length + 1 - i : Nat) : Int) := by omega
  have hik : i + (zs.length + 1 - i) = zs.length + 1 := by omega
  have hrz : ∀ ty, (Builtin.append_ #[28, 3] ty #[.slice (some ⟨b, off, none⟩) i cap, .int .i64 ((zs.length : Int) + 1 - (i : Int))]).run Tryz.prog w =
      .ok (.slice (some ⟨w.heap.size, 0, none⟩) (zs.length + 1) (grownCap w (zs.length + 1) cap 2)) (w.drew.alloc (.cells ((ints (zs.take i)).toArray ++ Builtin.zeroCells (Value.int .i64 0).cells (zs.length + 1 - i) ++ Builtin.zeroCells (Value.int .i64 0).cells (grownCap w (zs.length + 1) cap 2 - (zs.length + 1))) 2)) := fun ty => by
    have h := Lib.run_append_grow_zeros w 28 3 ty 2 i0 _ .i64 .i64 Tryz.underlying28 Tryz.underlying3 hi0 hz0 (some ⟨b, off, none⟩) i cap (ints (zs.take i)) (hold i (by omega)) (zs.length + 1 - i) (by omega) (by omega) (by omega) (by omega) (by rw [hzb]; omega) (by rw [hzb, hik]; exact growslice_fits (by omega) (by omega))
    rw [hik] at h
    rw [hkk]
    exact h
  obtain ⟨G, hG⟩ : ∃ G, G = grownCap w (zs.length + 1) cap 2 := ⟨_, rfl⟩
  have hGe : zs.length + 1 ≤ G := by rw [hG]; exact grownCap_ge _ _ _ _
  have hGm : G ≤ maxLen := by rw [hG]; exact grownCap_le_maxLen _ _ _ _ (by unfold maxLen; omega)
  rw [← hG] at hrz
  obtain ⟨W1, hW1⟩ : ∃ W1, W1 = w.alloc (.cells ((ints (zs.take i)).toArray ++ Builtin.zeroCells (Value.int .i64 0).cells (zs.length + 1 - i) ++ Builtin.zeroCells (Value.int .i64 0).cells (G - (zs.length + 1))) 2) := ⟨_, rfl⟩
  have hrz' : ∀ ty, (Builtin.append_ #[28, 3] ty #[.slice (some ⟨b, off, none⟩) i cap, .int .i64 ((zs.length : Int) + 1 - (i : Int))]).run Tryz.prog w = .ok (.slice (some ⟨w.heap.size, 0, none⟩) (zs.length + 1) G) W1.drew := fun ty => by rw [hrz ty, hW1]; rfl
  have H1 : Hid (OwnAt B W1 w.heap.size 0 G (zs.take i)) := by
    show OwnAt B W1 w.heap.size 0 G (zs.take i)
    rw [hW1, Array.append_assoc]
    exact OwnAt.fresh (heap_alloc_new w _) hB (by simp [ints, size_zeroCells, Value.cells]; omega) hGm (by simp; omega) fun j hj => arr_ints _ _ j hj
  have HB1 : Hid (Below w.heap.size w W1) := by
    show Below w.heap.size w W1
    rw [hW1]
    exact (Below.refl _ _).alloc (Nat.le_refl _) _
  have hbw : b < w.heap.size := Hh.out.lt
  have hvw : vb < w.heap.size := (Array.getElem?_eq_some_iff.1 Hv.out).1
  have hti : (zs.take i).length = i := by rw [List.length_take]; omega
  have H2 : Hid (OwnAt B (W1.setCells w.heap.size i (ints [x])) w.heap.size 0 G (zs.take i ++ [x])) := by
    have := H1.out.put i [x] (by simp; omega) (zs.take i ++ [x]) (by simp; omega) (fun j hj => by
      have hj' : j < i + 1 := by simp at hj; omega
      by_cases he : j = i
      · refine .inl ⟨by omega, by simp; omega, ?_⟩
        rw [some_get, List.getElem?_append_right (by omega), hti, he]
      · refine .inr ⟨.inl (by omega), ?_⟩
        rw [some_get, List.getElem?_append_left (by omega)])
    rwa [Nat.zero_add] at this
  obtain ⟨W2, hW2⟩ : ∃ W2, W2 = W1.setCells w.heap.size i (ints [x]) := ⟨_, rfl⟩
  rw [← hW2] at H2
  have HB2 : Hid (Below w.heap.size w W2) := by
    show Below w.heap.size w W2
    rw [hW2]
    have hg := grown_setCells w.heap.size (ints [x]) i W1
    exact HB1.out.grown hg HB1.out.size (fun k hk => by cases hk; exact Nat.le_refl _)
  have H3 : Hid (OwnAt B (W2.setCells w.heap.size (i + 1) (ints (zs.drop i))) w.heap.size 0 G (putAt zs i x)) := by
    have := H2.out.put (i + 1) (zs.drop i) (by simp; omega) (putAt zs i x) (by rw [Hpl.out]; exact hGe) (fun j hj => by
      rw [Hpl.out] at hj
      rw [some_get, putAt_at _ _ _ (by omega)]
      by_cases hji : j < i + 1
      · refine .inr ⟨.inl hji, ?_⟩
        by_cases he : j < i
        · rw [if_pos he, List.getElem?_append_left (by omega), List.getElem?_take, if_pos he]
        · rw [if_neg he, if_pos (by omega), List.getElem?_append_right (by omega), hti, show j - i = 0 by omega]
          rfl
      · refine .inl ⟨by omega, by simp; omega, ?_⟩
        rw [if_neg (by omega), if_neg (by omega), List.getElem?_drop]
        congr 1
        omega)
    rwa [Nat.zero_add] at this
  have hcpA : ∀ ty dc, (Builtin.copy_ #[28, 28] ty #[.slice (some ⟨w.heap.size, i, none⟩) (zs.length + 1 - i) dc, .slice (some ⟨vb, 0, none⟩) 1 1]).run Tryz.prog W1.drew = .ok (goInt 1) W2.drew := fun ty dc => by
    have := run_copy_cells (P := Tryz.prog) W1.drew 28 28 ty 2 w.heap.size i (zs.length + 1 - i) dc ⟨vb, 0, none⟩ 1 1 (ints [x]) Tryz.underlying28 hsz1 (by simp [ints]; simp only [Nat.min_def]; split <;> omega)
      (fun j v hj => by
        rw [show W1.drew.cell? ((⟨vb, 0, none⟩ : Addr).add j) = W1.cell? ((⟨vb, 0, none⟩ : Addr).add j) from rfl, Addr.add_lit, HB1.out.cell (by exact hvw)]
        have := hvs j v hj
        rwa [Addr.add_lit] at this)
      (fun j hj => by simp [ints] at hj; subst hj; have := (H1.out.spare i (by omega)).1; rwa [Nat.zero_add] at this) (fun j hj => by simp [ints] at hj; subst hj; have := (H1.out.spare i (by omega)).2; rwa [Nat.zero_add] at this) (ints_one _)
    rw [this, hW2, drew_setCells]
    rfl
  have hcpB : ∀ ty dc sc, (Builtin.copy_ #[28, 28] ty #[.slice (some ⟨w.heap.size, i + 1, none⟩) (zs.length - i) dc, .slice (some ⟨b, off + i, none⟩) (zs.length - i) sc]).run Tryz.prog W2.drew.drew = .ok (goInt (ints (zs.drop i)).length) (W2.setCells w.heap.size (i + 1) (ints (zs.drop i))).drew.drew := fun ty dc sc => by
    have := run_copy_cells (P := Tryz.prog) W2.drew.drew 28 28 ty 2 w.heap.size (i + 1) (zs.length - i) dc ⟨b, off + i, none⟩ (zs.length - i) sc (ints (zs.drop i)) Tryz.underlying28 hsz1 (by rw [hdl]; simp)
      (fun j v hj => by
        rw [show W2.drew.drew.cell? ((⟨b, off + i, none⟩ : Addr).add j) = W2.cell? ((⟨b, off + i, none⟩ : Addr).add j) from rfl, Addr.add_lit, HB2.out.cell (by exact hbw), Nat.add_assoc]
        exact hcs j v hj)
      (fun j hj => by have := (H2.out.spare (i + 1 + j) (by omega)).1; rwa [Nat.zero_add] at this) (fun j hj => by have := (H2.out.spare (i + 1 + j) (by omega)).2; rwa [Nat.zero_add] at this) (ints_one _)
    rw [this, drew_setCells, drew_setCells]
  have HB3 : Hid (Below w.heap.size w (W2.setCells w.heap.size (i + 1) (ints (zs.drop i)))) := HB2.out.grown (grown_setCells w.heap.size _ _ W2) HB2.out.size (fun k hk => by cases hk; exact Nat.le_refl _)
  obtain ⟨W3, hW3⟩ : ∃ W3, W3 = W2.setCells w.heap.size (i + 1) (ints (zs.drop i)) := ⟨_, rfl⟩
  rw [← hW3] at H3 HB3
  simp only [← hW3] at hcpB
  clear hrz hW1 hW2 hW3 hcs hvs hv1 hsrc hold hG hkk hik hti hdl hz2 hbw hvw hvc hi0 hz0 hzs hzb hsz1
  have hw1 : IntKind.i64.wrap ((i : Int) + 1) = (i : Int) + 1 := by rw [IntKind.wrap_i64]; omega
  have hb1 : (0 : Int) ≤ (i : Int) + 1 := by omega
  have htn : ((i : Int) + 1).toNat = i + 1 := by omega
  have hb2 : ¬ (G = i + 1) := by omega
  have hb4 : ¬ (G = i) := by omega
  have hb5 : ¬ (cap = i) := by omega
  have hb3 : (i : Int) ≤ (zs.length : Int) + 1 := by omega
  have hcap : (cap : Int) < (zs.length : Int) + 1 := by omega
  go_enter Tryz.func236, Tryz.ntmps236
  go_wp2_with (at_builtin; refine Lib.wpList_append_run _ rfl _ _ _ _ rfl _ _ rfl rfl _ _ (hrz' _) ?_)
  go_region_law (refine step_copy_runI rfl _ _ 28 28 rfl _ _ (by simp [Act.eval, Act.put]) (by simp [Act.eval, Act.put]) (hcpB _ _ _) ?_)
  go_wp2_with fail
  go_ret
  exact ⟨_, _, _, rfl, H3.out.kept (Nat.le_refl _) rfl, grown_trans (grown_of_below HB3.out) (grown_trans (grown_drew _ _) (grown_drew _ _)), .inr (Nat.le_refl _)⟩

end Go.Proofs.YtnknnncehcofnaaGreatDoor

namespace Go.Proofs.YtnknnncehcofnaaGreatDoor
open Go.RowKit Go.Lib

set_option maxRecDepth 100000 in
set_option maxHeartbeats 1600000 in
theorem insertOne {B : Nat} (b off cap : Nat) (zs : List Int) (i : Nat) (x : Int) (vb : Nat) (w : World) (h : OwnAt B w b off cap zs) (hi : i ≤ zs.length) (hl : zs.length ≤ 1048576) (hB : B ≤ w.heap.size)
    (hv : w.heap[vb]? = some (.cells #[.int .i64 x] 2 (0, 0))) (hne : vb ≠ b) :
    Calls Tryz.prog 236 #[.slice (some ⟨b, off, none⟩) zs.length cap, .int .i64 i, .slice (some ⟨vb, 0, none⟩) 1 1] w fun e w' =>
      ∃ b' off' cap', e = .returned (.slice (some ⟨b', off', none⟩) (zs.length + 1) cap') ∧ OwnAt B w' b' off' cap' (putAt zs i x) ∧ w.grownBy w' (some b) ∧ (b' = b ∨ w.heap.size ≤ b') := by
  by_cases hin : i = zs.length
  · exact insertEnd b off cap zs i x vb w h hi hin hl hB hv hne
  · by_cases hc : zs.length + 1 ≤ cap
    · exact insertShift b off cap zs i x vb w h hi (by omega) hc hl hB hv hne
    · exact insertGrow b off cap zs i x vb w h hi (by omega) hc hl hB hv hne
end Go.Proofs.YtnknnncehcofnaaGreatDoor

namespace Go.Proofs.YtnknnncehcofnaaGreatDoor
open Go.RowKit

/-- heights (less than 0: none), and what waits -/
structure HS where
  h : List Int
  wt : List Bool

def putsM (op : Int) : Int := (opRow op).2.2.2

/-- where an instruction goes on -/
def goesTo (at' : Nat) (i : Int × Int) : List Int :=
  (if i.1 = 30 ∨ i.1 = 33 then [] else [(at' : Int) + 1]) ++ (if i.1 = 30 ∨ i.1 = 31 then [i.2] else [])

/-- what it leaves -/
def leaves (p : List FnM) (hh : Int) (i : Int × Int) : Int := wrap64 (wrap64 (hh - takesM p i.1 i.2) + putsM i.1)

/-- to go on to places with that height: what stands then, or a code -/
def goOn (next : Int) : List Int → HS → HS ⊕ Int
  | [], s => .inl s
  | t :: ts, s =>
    if (s.h.length : Int) ≤ t then .inr 6
    else if 0 ≤ s.h.getD t.toNat 0 ∧ s.h.getD t.toNat 0 ≠ next then .inr 5
    else if s.h.getD t.toNat 0 < 0 then goOn next ts ⟨s.h.set t.toNat next, s.wt.set t.toNat true⟩
    else goOn next ts s

/-- one turn at a place -/
def turn (p : List FnM) (c : List (Int × Int)) (at' : Nat) (s : HS) : HS ⊕ Int :=
  if s.h.getD at' 0 < takesM p (c.getD at' (0, 0)).1 (c.getD at' (0, 0)).2 ∨ 8 < leaves p (s.h.getD at' 0) (c.getD at' (0, 0)) then .inr 5
  else goOn (leaves p (s.h.getD at' 0) (c.getD at' (0, 0))) (goesTo at' (c.getD at' (0, 0))) ⟨s.h, s.wt.set at' false⟩

/-- the least place that waits -/
def IsLeast (wt : List Bool) (at' : Nat) : Prop := at' < wt.length ∧ wt.getD at' false = true ∧ ∀ j, j < at' → wt.getD j false = false

/-- what the turns come to: heights, or a fault with its place and code -/
inductive HRun (p : List FnM) (c : List (Int × Int)) : HS → (List Int ⊕ (Nat × Int)) → Prop
  | done (s : HS) : (∀ j, s.wt.getD j false = false) → HRun p c s (.inl s.h)
  | fault (s : HS) (at' : Nat) (code : Int) : IsLeast s.wt at' → turn p c at' s = .inr code → HRun p c s (.inr (at', code))
  | more (s s' : HS) (at' : Nat) (r : List Int ⊕ (Nat × Int)) : IsLeast s.wt at' → turn p c at' s = .inl s' → HRun p c s' r → HRun p c s r

theorem IsLeast.unique {wt : List Bool} {a b : Nat} (h : IsLeast wt a) (k : IsLeast wt b) : a = b := by
  rcases Nat.lt_trichotomy a b with hl | he | hl
  · have := k.2.2 a hl; rw [h.2.1] at this; cases this
  · exact he
  · have := h.2.2 b hl; rw [k.2.1] at this; cases this

theorem HRun.unique {p : List FnM} {c : List (Int × Int)} {s : HS} {r r' : List Int ⊕ (Nat × Int)} (h : HRun p c s r) (k : HRun p c s r') : r = r' := by
  induction h generalizing r' with
  | done s hw =>
    cases k with
    | done _ _ => rfl
    | fault _ a _ hl _ => have := hw a; rw [hl.2.1] at this; cases this
    | more _ _ a _ hl _ _ => have := hw a; rw [hl.2.1] at this; cases this
  | fault s a code hl ht =>
    cases k with
    | done _ hw => have := hw a; rw [hl.2.1] at this; cases this
    | fault _ b _ hl' ht' =>
      obtain rfl := hl.unique hl'
      rw [ht] at ht'
      cases ht'
      rfl
    | more _ _ b _ hl' ht' _ =>
      obtain rfl := hl.unique hl'
      rw [ht] at ht'
      cases ht'
  | more s s' a r hl ht _ ih =>
    cases k with
    | done _ hw => have := hw a; rw [hl.2.1] at this; cases this
    | fault _ b _ hl' ht' =>
      obtain rfl := hl.unique hl'
      rw [ht] at ht'
      cases ht'
    | more _ _ b _ hl' ht' hr' =>
      obtain rfl := hl.unique hl'
      rw [ht] at ht'
      cases ht'
      exact ih hr'

/-! turns come to an end: a weight that each turn makes less -/

def wgt (x : Int) (b : Bool) : Nat := (if x < 0 then 3 else 0) + (if b then (if x < 0 then 1 else 3) else 0)
def wsum : List Int → List Bool → Nat
  | x :: h, b :: wt => wgt x b + wsum h wt
  | _, _ => 0
def HS.weight (s : HS) : Nat := wsum s.h s.wt

theorem wsum_set (h : List Int) (wt : List Bool) (j : Nat) (x : Int) (b : Bool) (hj : j < h.length) (hj' : j < wt.length) :
    wsum (h.set j x) (wt.set j b) + wgt (h.getD j 0) (wt.getD j false) = wsum h wt + wgt x b := by
  induction h generalizing wt j with
  | nil => simp at hj
  | cons y h ih =>
    cases wt with
    | nil => simp at hj'
    | cons d wt =>
      cases j with
      | zero => simp only [List.set_cons_zero, wsum, List.getD_cons_zero]; omega
      | succ j =>
        have := ih wt j (by simpa using hj) (by simpa using hj')
        simp only [List.set_cons_succ, wsum, List.getD_cons_succ]
        omega

theorem set_getD_self {α : Type} (l : List α) (j : Nat) (d : α) (hj : j < l.length) : l.set j (l.getD j d) = l := by
  simp [List.getD, hj]

/-- a height that a place which waits can have: 0 to 8, or one that has gone below all numbers and come back on the other side -/
def HV (x : Int) : Prop := (0 ≤ x ∧ x ≤ 8) ∨ (-9223372036854775808 ≤ x ∧ x ≤ -9223372036854775798)

structure HOk (n : Nat) (s : HS) : Prop where
  lh : s.h.length = n
  lw : s.wt.length = n
  ok : ∀ j, j < n → s.wt.getD j false = true → HV (s.h.getD j 0)

theorem getD_set {α : Type} (l : List α) (j k : Nat) (x d : α) (hj : j < l.length) : (l.set j x).getD k d = if j = k then x else l.getD k d := by
  simp only [List.getD, List.getElem?_set]
  by_cases h : j = k
  · subst h; simp [hj]
  · simp [h]

theorem goOn_ok {n : Nat} {next : Int} (hv : HV next) : ∀ (ts : List Int) (s s' : HS), (∀ t ∈ ts, 0 ≤ t) → HOk n s → goOn next ts s = .inl s' → HOk n s' ∧ s'.weight ≤ s.weight + (if next < 0 then ts.length else 0)
  | [], s, s', _, ho, h => by
    simp only [goOn, Sum.inl.injEq] at h
    subst h
    exact ⟨ho, by omega⟩
  | t :: ts, s, s', hp, ho, h => by
    have ht0 := hp t (by simp)
    rw [goOn] at h
    split at h
    · cases h
    · rename_i hlt
      have hj : t.toNat < s.h.length := by omega
      have hj' : t.toNat < s.wt.length := by rw [ho.lw, ← ho.lh]; exact hj
      split at h
      · cases h
      · split at h
        · rename_i hneg
          have hs : HOk n ⟨s.h.set t.toNat next, s.wt.set t.toNat true⟩ := by
            refine ⟨by simpa using ho.lh, by simpa using ho.lw, fun j hjn hw => ?_⟩
            simp only [getD_set _ _ _ _ _ hj, getD_set _ _ _ _ _ hj'] at hw ⊢
            split
            · exact hv
            · rename_i hne
              rw [if_neg hne] at hw
              exact ho.ok j hjn hw
          obtain ⟨h1, h2⟩ := goOn_ok hv ts _ s' (fun t' ht' => hp t' (by simp [ht'])) hs h
          refine ⟨h1, Nat.le_trans h2 ?_⟩
          have h3 := wsum_set s.h s.wt t.toNat next true hj hj'
          have h4 : 3 ≤ wgt (s.h.getD t.toNat 0) (s.wt.getD t.toNat false) := by unfold wgt; rw [if_pos hneg]; omega
          have h5 : wgt next true = if next < 0 then 4 else 3 := by unfold wgt; split <;> simp
          have h6 : (HS.mk (s.h.set t.toNat next) (s.wt.set t.toNat true)).weight = wsum (s.h.set t.toNat next) (s.wt.set t.toNat true) := rfl
          have h7 : s.weight = wsum s.h s.wt := rfl
          rw [h6, h7]
          simp only [List.length_cons]
          split at h5 <;> rename_i hn
          · rw [if_pos hn, if_pos hn]; omega
          · rw [if_neg hn, if_neg hn]; omega
        · obtain ⟨h1, h2⟩ := goOn_ok hv ts s s' (fun t' ht' => hp t' (by simp [ht'])) ho h
          refine ⟨h1, Nat.le_trans h2 ?_⟩
          simp only [List.length_cons]
          split <;> omega

theorem putsM_range (op : Int) : 0 ≤ putsM op ∧ putsM op ≤ 2 := by
  unfold putsM
  refine opRow_of op (P := fun r => 0 ≤ r.2.2.2 ∧ r.2.2.2 ≤ 2) (fun _ => by decide) (fun k hk _ => ?_)
  have : ∀ k : Fin 39, 0 ≤ (opN k.1).2.2.2 ∧ (opN k.1).2.2.2 ≤ 2 := by decide
  exact this ⟨k, hk⟩

theorem takes_row (op : Int) : 0 ≤ (opRow op).2.2.1 ∧ (opRow op).2.2.1 ≤ 3 := by
  refine opRow_of op (P := fun r => 0 ≤ r.2.2.1 ∧ r.2.2.1 ≤ 3) (fun _ => by decide) (fun k hk _ => ?_)
  have : ∀ k : Fin 39, 0 ≤ (opN k.1).2.2.1 ∧ (opN k.1).2.2.1 ≤ 3 := by decide
  exact this ⟨k, hk⟩

theorem fnAt_mem {p : List FnM} {a : Int} (h : 0 ≤ a ∧ a < p.length) : fnAt p a ∈ p := by
  have hk : a.toNat < p.length := by omega
  have : fnAt p a = p[a.toNat] := by simp [fnAt, List.getD, hk]
  rw [this]
  exact List.getElem_mem hk

theorem takesM_i64 {p : List FnM} (hp : ∀ f ∈ p, f.ok) (op a : Int) : I64 (takesM p op a) := by
  unfold takesM
  split
  · split
    · rename_i h
      exact (hp _ (fnAt_mem h)).1
    · unfold I64; omega
  · have := takes_row op
    unfold I64; omega

theorem leaves_ok {p : List FnM} (hp : ∀ f ∈ p, f.ok) (hh : Int) (i : Int × Int) (hv : HV hh) (h1 : takesM p i.1 i.2 ≤ hh) (h2 : leaves p hh i ≤ 8) : HV (leaves p hh i) ∧ (hh < 0 → 0 ≤ leaves p hh i) := by
  have ht := takesM_i64 hp i.1 i.2
  have hq := putsM_range i.1
  unfold leaves at h2 ⊢
  unfold I64 at ht
  unfold HV at hv ⊢
  unfold wrap64 at h2 ⊢
  omega

theorem goesTo_len (at' : Nat) (i : Int × Int) : (goesTo at' i).length ≤ 2 := by
  unfold goesTo
  split <;> split <;> simp

theorem turn_less {p : List FnM} (hp : ∀ f ∈ p, f.ok) {c : List (Int × Int)} {n at' : Nat} {s s' : HS} (ho : HOk n s) (hl : IsLeast s.wt at') (hto : ∀ t ∈ goesTo at' (c.getD at' (0, 0)), 0 ≤ t)
    (h : turn p c at' s = .inl s') : HOk n s' ∧ s'.weight < s.weight := by
  have hj' : at' < s.wt.length := hl.1
  have hj : at' < s.h.length := by rw [ho.lh, ← ho.lw]; exact hj'
  unfold turn at h
  split at h
  · cases h
  · rename_i hc
    obtain ⟨hc1, hc2⟩ := not_or.1 hc
    have hv := ho.ok at' (by rw [← ho.lw]; exact hj') hl.2.1
    obtain ⟨hv', hneg⟩ := leaves_ok hp _ (c.getD at' (0, 0)) hv (by omega) (by omega)
    have hs : HOk n ⟨s.h, s.wt.set at' false⟩ := by
      refine ⟨ho.lh, by simpa using ho.lw, fun j hjn hw => ?_⟩
      simp only [getD_set _ _ _ _ _ hj'] at hw
      split at hw
      · cases hw
      · exact ho.ok j hjn hw
    obtain ⟨h1, h2⟩ := goOn_ok hv' _ _ _ hto hs h
    refine ⟨h1, Nat.lt_of_le_of_lt h2 ?_⟩
    have h3 := wsum_set s.h s.wt at' (s.h.getD at' 0) false hj hj'
    rw [set_getD_self _ _ _ hj, hl.2.1] at h3
    have h4 := goesTo_len at' (c.getD at' (0, 0))
    have h6 : (HS.mk s.h (s.wt.set at' false)).weight = wsum s.h (s.wt.set at' false) := rfl
    have h7 : s.weight = wsum s.h s.wt := rfl
    rw [h6, h7]
    by_cases hn : s.h.getD at' 0 < 0
    · have := hneg hn
      rw [if_neg (by omega)]
      simp only [wgt, if_pos hn, if_true] at h3
      simp at h3
      omega
    · simp only [wgt, if_neg hn, if_true] at h3
      simp at h3
      split <;> omega
end Go.Proofs.YtnknnncehcofnaaGreatDoor
