/- A map from numbers to numbers that the call has made: what it holds of the places 0, 1, .. -/
import Derived.Test.YtijgonjnmibifaaGreatDoorVRow
import Derived.Maps.OwnSet
namespace Go.Proofs.YtijgonjnmibifaaGreatDoor
open Go.RowKit Go.Maps Go.WideShapes

theorem key64 : Keyed Tryz.prog 2 := int_keyed Tryz.underlying2
theorem zero64 (w : World) : (zeroValue 2).run Tryz.prog w = .ok (.int .i64 0) w := by kernel_rfl

/-- what m says of a place; of another number nothing -/
def mAt (m : List (Option Int)) (t : Int) : Option Int := if 0 ≤ t then m.getD t.toNat none else none
theorem mAt_nat (m : List (Option Int)) (t : Nat) : mAt m (t : Int) = m.getD t none := by unfold mAt; rw [if_pos (by omega), Int.toNat_natCast]
theorem mAt_set (m : List (Option Int)) (j : Nat) (x : Option Int) (t : Int) (hj : j < m.length) : mAt (m.set j x) t = if (j : Int) = t then x else mAt m t := by
  unfold mAt
  by_cases h : 0 ≤ t
  · rw [if_pos h, if_pos h]
    simp only [List.getD, List.getElem?_set]
    by_cases he : j = t.toNat
    · rw [if_pos (show (j : Int) = t by omega)]; subst he; simp [hj]
    · rw [if_neg (show ¬ (j : Int) = t by omega)]; simp [he]
  · rw [if_neg h, if_neg h, if_neg (show ¬ (j : Int) = t by omega)]

/-- block b is a map that has of each place what m says, and of no other number anything -/
def MapH (w : World) (b : Nat) (m : List (Option Int)) : Prop :=
  ∃ k D, w.ownsMap Tryz.prog 2 (plainElem (H := Unit) Tryz.prog 2) b k D ∧ k + m.countP (·.isNone) ≤ m.length ∧
    ∀ t : Int, D.atKey (.int .i64 t) (.lit (.int .i64 0)) = .lit (.int .i64 ((mAt m t).getD 0)) ∧ Maps.has D (.int .i64 t) = (mAt m t).isSome

theorem MapH.lt {w : World} {b : Nat} {m : List (Option Int)} (h : MapH w b m) : b < w.heap.size := let ⟨_, _, h, _⟩ := h; h.lt

theorem MapH.kept {w w' : World} {b : Nat} {m : List (Option Int)} {row : Option Nat} (h : MapH w b m) (hg : w.grownBy w' row) (hne : some b ≠ row) : MapH w' b m := by
  obtain ⟨k, D, h1, h2⟩ := h
  exact ⟨k, D, h1.kept hg hne, h2⟩

theorem MapH.below {w w' : World} {b : Nat} {m : List (Option Int)} (h : MapH w b m) (hb : Below w.heap.size w w') : MapH w' b m :=
  h.kept (row := none) ⟨hb.os, hb.tape, hb.output, hb.size, fun k hk _ => hb.block k hk⟩ (by simp)

theorem MapH.setFar {w : World} {b : Nat} {m : List (Option Int)} (h : MapH w b m) (q : Addr) (u : Value) (hq : b ≠ q.block) : MapH (w.setCell q u) b m := by
  obtain ⟨k, D, h1, h2⟩ := h
  exact ⟨k, D, h1.setCell hq u, h2⟩

theorem wf_nat (t : Nat) (h : t ≤ 1048576) : (Lit.int .i64 (t : Int)).wf = true := WalkArith.wf_i64 (by omega)

/-- v, ok := m[t], of any number -/
theorem MapH.lookI {w : World} {b : Nat} {m : List (Option Int)} (h : MapH w b m) (t : Int) (ht : -9223372036854775808 ≤ t ∧ t ≤ 9223372036854775807) :
    (Instr.lookup 118 (.map (some b)) (.int .i64 t) true).run Tryz.prog w = .ok (.tuple #[.int .i64 ((mAt m t).getD 0), .bool (mAt m t).isSome]) w ∧
    (Instr.lookup 118 (.map (some b)) (.int .i64 t) false).run Tryz.prog w = .ok (.int .i64 ((mAt m t).getD 0)) w := by
  obtain ⟨k, D, h1, _, h2⟩ := h
  obtain ⟨ha, hh⟩ := h2 t
  have hkey := keyOf_int_mk (P := Tryz.prog) (k := 2) Tryz.underlying2 (WalkArith.wf_i64 ht)
  constructor
  · obtain ⟨v, ps, hrun, hv⟩ := h1.look_ok key64 (t := 118) Tryz.underlying118 (zero64 w) (plainElem_int Tryz.underlying2 (by decide)) hkey
    rw [ha] at hv
    obtain ⟨c, rfl, hc, _⟩ := plainElem_int_inv Tryz.underlying2 hv
    simp only [Prod.mk.injEq, DataW.lit.injEq, Lit.int.injEq, true_and] at hc
    rw [hrun, hh, hc.1]
  · obtain ⟨c, hrun, hc, _⟩ := h1.lookup_int key64 (t := 118) Tryz.underlying118 Tryz.underlying2 (zero64 w) hkey
    rw [ha] at hc
    simp only [DataW.lit.injEq, Lit.int.injEq, true_and] at hc
    rw [hrun, hc]

/-- .. of a place -/
theorem MapH.look {w : World} {b : Nat} {m : List (Option Int)} (h : MapH w b m) (hl : m.length ≤ 1048576) (t : Nat) (ht : t < m.length) :
    (Instr.lookup 118 (.map (some b)) (.int .i64 t) true).run Tryz.prog w = .ok (.tuple #[.int .i64 ((m.getD t none).getD 0), .bool (m.getD t none).isSome]) w ∧
    (Instr.lookup 118 (.map (some b)) (.int .i64 t) false).run Tryz.prog w = .ok (.int .i64 ((m.getD t none).getD 0)) w := by
  have := h.lookI (t : Int) (by omega)
  rwa [mAt_nat] at this

theorem getD_setO (l : List (Option Int)) (j k : Nat) (x : Option Int) (hj : j < l.length) : (l.set j x).getD k none = if j = k then x else l.getD k none := by
  simp only [List.getD, List.getElem?_set]
  by_cases h : j = k
  · subst h; simp [hj]
  · simp [h]

theorem countP_setO {m : List (Option Int)} {k : Nat} {x : Int} (hk : k < m.length) (hn : m.getD k none = none) : (m.set k (some x)).countP (·.isNone) + 1 = m.countP (·.isNone) := by
  induction m generalizing k with
  | nil => simp at hk
  | cons a m ih =>
    cases k with
    | zero =>
      simp at hn
      subst hn
      simp
    | succ k =>
      have := ih (k := k) (by simpa using hk) (by simpa using hn)
      simp only [List.set_cons_succ, List.countP_cons]
      omega

theorem atKey_lit_ne {t t' : Int} (h : t ≠ t') : (Lit.int .i64 t) ≠ Lit.int .i64 t' := by
  intro e
  simp only [Lit.int.injEq, true_and] at e
  exact h e

/-- m[t] = x, of a place that it has not -/
theorem MapH.update {w : World} {b : Nat} {m : List (Option Int)} (h : MapH w b m) (hl : m.length ≤ 1048576) (t : Nat) (ht : t < m.length) (hn : m.getD t none = none) (x : Int) (hx : (Lit.int .i64 x).wf = true) :
    ∃ w', (Instr.mapUpdate 118 (.map (some b)) (.int .i64 t) (.int .i64 x)).run Tryz.prog w = .ok () w' ∧ MapH w' b (m.set t (some x)) ∧ w.grownBy w' (some b) ∧ w'.heap.size = w.heap.size := by
  obtain ⟨k, D, h1, hk, h2⟩ := h
  have hkey := keyOf_int_mk (P := Tryz.prog) (k := 2) Tryz.underlying2 (wf_nat t (by omega))
  have hc := countP_setO (x := x) ht hn
  obtain ⟨w', hrun, hown, hg⟩ := h1.store key64 (t := 118) Tryz.underlying118 (by unfold maxLen; omega) hkey (plainElem_int Tryz.underlying2 hx)
  refine ⟨w', hrun, ⟨k + 1, _, hown, by simp only [List.length_set]; omega, fun t' => ?_⟩, hg.grown, by obtain ⟨_, _, _, _, _, rfl⟩ := hg; simp [ChangeMaps.setBlock]⟩
  rw [mAt_set _ _ _ _ ht]
  by_cases he : (t : Int) = t'
  · subst he
    rw [if_pos rfl]
    exact ⟨atKey_put_same h1.isMap (by simp [WideAt.IsKeyLit]) _ _, has_put_same h1.isMap (by simp [WideAt.IsKeyLit]) _⟩
  · rw [if_neg he]
    obtain ⟨a1, a2⟩ := h2 t'
    have hne := atKey_lit_ne (Ne.symm he)
    exact ⟨by rw [atKey_put_other hne]; exact a1, by rw [has_put_other hne]; exact a2⟩

theorem rep_none (n t : Nat) : (List.replicate n (none : Option Int)).getD t none = none := by
  simp only [List.getD, List.getElem?_replicate]
  split <;> rfl

/-- the map that is just made, with 0 at 0 -/
theorem MapH.start (w : World) (n : Nat) (hn : 1 ≤ n) (hl : n ≤ 1048576) :
    ∃ w', (Instr.mapUpdate 118 (.map (some w.heap.size)) (.int .i64 0) (.int .i64 0)).run Tryz.prog (w.alloc (.map #[] 0)) = .ok () w' ∧ MapH w' w.heap.size ((List.replicate n none).set 0 (some 0)) ∧ (w.alloc (.map #[] 0)).grownBy w' (some w.heap.size) ∧ w'.heap.size = w.heap.size + 1 := by
  have h0 : MapH (w.alloc (.map #[] 0)) w.heap.size (List.replicate n none) := by
    refine ⟨0, .map [], World.ownsMap_made _ _ _ _, by simp [List.countP_replicate], fun t => ?_⟩
    rw [show mAt (List.replicate n none) t = none by unfold mAt; split; exact rep_none _ _; rfl]
    exact ⟨rfl, rfl⟩
  have := h0.update (by simpa using hl) 0 (by rw [List.length_replicate]; omega) (rep_none n 0) 0 (by decide)
  simpa using this
end Go.Proofs.YtijgonjnmibifaaGreatDoor
