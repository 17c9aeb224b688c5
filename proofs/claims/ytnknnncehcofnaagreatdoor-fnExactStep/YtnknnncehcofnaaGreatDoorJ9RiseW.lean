/- impl.putRising. A map from numbers to numbers that the call has made: what it holds of the places 0, 1, .. impl.findHeights' closure: to go on to a place. impl.heightBehind, impl.placesBehind, impl.sizesRight. -/
import Derived.Test.YtnknnncehcofnaaGreatDoorJ5InsertC
import Derived.Test.YtnknnncehcofnaaGreatDoorHeightI
import Derived.Test.YtnknnncehcofnaaGreatDoorShelf
import Derived.Test.YtnknnncehcofnaaGreatDoorJ0Prg
import Derived.Maps.OwnSet
namespace Go.Proofs.YtnknnncehcofnaaGreatDoor
open Go.RowKit

def nats (L : List Nat) : List Int := L.map fun (n : Nat) => (n : Int)
theorem nats_length (L : List Nat) : (nats L).length = L.length := by simp [nats]
theorem nats_countP (L : List Nat) (t : Nat) : (nats L).countP (fun z => decide (z < (t : Int))) = L.countP (· < t) := by
  unfold nats
  rw [List.countP_map]
  congr 1
  funext n
  simp
theorem nats_putIn (L : List Nat) (t : Nat) : putAt (nats L) (L.countP (· < t)) t = nats (putIn t L) := by simp [putAt, putIn, nats, List.map_take, List.map_drop]
theorem nats_rise (L : List Nat) (h : L.Pairwise (· < ·)) : (nats L).Pairwise (· ≤ ·) := by
  unfold nats
  rw [List.pairwise_map]
  exact h.imp (fun h => by omega)

set_option maxHeartbeats 800000 in
theorem implRise {B : Nat} (b off cap : Nat) (L : List Nat) (t : Nat) (w : World) (h : OwnAt B w b off cap (nats L)) (hr : L.Pairwise (· < ·)) (hl : L.length ≤ 1048576) (hB : B ≤ w.heap.size) :
    Calls Tryz.prog 207 #[.slice (some ⟨b, off, none⟩) L.length cap, .int .i64 t] w fun e w' =>
      ∃ b' off' cap', e = .returned (.slice (some ⟨b', off', none⟩) (L.length + 1) cap') ∧ OwnAt B w' b' off' cap' (nats (putIn t L)) ∧ w.grownBy w' (some b) ∧ (b' = b ∨ w.heap.size ≤ b') := by
  have Hh : Hid (OwnAt B w b off cap (nats L)) := h
  have hbs := Tryz.slices_BinarySearch_int b off (nats L).length cap (nats L) t w (Nat.le_refl _) (by rw [nats_length]; omega) (fun j hj => by rw [h.cells j hj]; simp [List.getD, hj]) (by rw [List.take_length]; exact nats_rise L hr)
  rw [List.take_length, nats_countP, nats_length] at hbs
  have hle : L.countP (· < t) ≤ L.length := List.countP_le_length
  have Hn : Hid (putAt (nats L) (L.countP (· < t)) t = nats (putIn t L)) := nats_putIn L t
  obtain ⟨i, Hi⟩ : ∃ i, Hid (i = L.countP (· < t)) := ⟨_, rfl⟩
  rw [← Hi.out] at hbs hle Hn
  obtain ⟨bb, Hbb⟩ : ∃ bb, Hid (bb = (nats L).contains (t : Int)) := ⟨_, rfl⟩
  rw [← Hbb.out] at hbs
  have Hbs : Hid (Calls Tryz.prog 235 #[.slice (some ⟨b, off, none⟩) L.length cap, .int .i64 t] w fun e w' => e = .returned (.tuple #[.int .i64 i, .bool bb]) ∧ ∃ q, w' = w.drewN q) := hbs
  clear h hbs hr Hi Hbb
  go_enter Tryz.func207, Tryz.ntmps207
  go_wp2_with fail
  refine Calls.mono (R := fun e w' => e = .returned (.tuple #[.int .i64 i, .bool bb]) ∧ ∃ q, w' = w.drewN q) Hbs.out ?_
  rintro e w1 ⟨rfl, q, hw1⟩
  have Hb1 : Hid (Below w.heap.size w w1) := by
    show Below w.heap.size w w1
    rw [hw1]
    exact below_drewN (Below.refl _ _) _
  have hs1 : w1.heap.size = w.heap.size := by rw [hw1]; simp
  clear hw1 Hbs
  go_wp2_with fail
  have hlt := Hh.out.lt
  have hb2 : Below w.heap.size w (w1.alloc (.cells #[.int .i64 t] 2)) := Hb1.out.alloc (by omega) _
  have hI := insertOne b off cap (nats L) i t w.heap.size (w1.alloc (.cells #[.int .i64 t] 2)) (Hh.out.below hb2) (by rw [nats_length]; exact hle) (by rw [nats_length]; exact hl) (by simp; omega)
    (by rw [← hs1]; exact heap_alloc_new w1 _) (by omega)
  rw [nats_length, Hn.out] at hI
  refine hI.mono ?_
  clear hI
  rintro e w2 ⟨b', off', cap', rfl, ho, hg, hw⟩
  have Ho : Hid (OwnAt B w2 b' off' cap' (nats (putIn t L))) := ho
  have Hg : Hid (w.grownBy w2 (some b)) := grown_trans (grown_of_below hb2) hg
  have Hw : Hid (b' = b ∨ w.heap.size ≤ b') := hw.imp id (fun h => by simp at h; omega)
  clear ho hg hw
  go_wp2_with fail
  go_ret
  exact ⟨_, _, _, rfl, Ho.out, Hg.out, Hw.out⟩
end Go.Proofs.YtnknnncehcofnaaGreatDoor

namespace Go.Proofs.YtnknnncehcofnaaGreatDoor
open Go.RowKit Go.Maps Go.WideShapes

theorem key64 : Keyed Tryz.prog 2 := int_keyed Tryz.underlying2
theorem zero64 (w : World) : (zeroValue 2).run Tryz.prog w = .ok (.int .i64 0) w := by kernel_rfl

/-- what m says of a place; of another number nothing -/
def mAt (m : List (Option Int)) (t : Int) : Option Int := if 0 ≤ t then m.getD t.toNat none else none
theorem mAt_nat (m : List (Option Int)) (t : Nat) : mAt m (t : Int) = m.getD t none := by unfold mAt; rw [if_pos (by omega), Int.toNat_natCast]
theorem mAt_set (m : List (Option Int)) (j : Nat) (x : Option Int) (t : Int) (hj : j < m.length) : mAt (m.set j x) t = if (j : Int) = t then x else mAt m t := by
  unfold mAt
  by_cases h : 0 ≤ t
  · rw [if_pos h, if_pos h]
    simp only [List.getD, List.getElem?_set]
    by_cases he : j = t.toNat
    · rw [if_pos (show (j : Int) = t by omega)]; subst he; simp [hj]
    · rw [if_neg (show ¬ (j : Int) = t by omega)]; simp [he]
  · rw [if_neg h, if_neg h, if_neg (show ¬ (j : Int) = t by omega)]

/-- block b is a map that has of each place what m says, and of no other number anything -/
def MapH (w : World) (b : Nat) (m : List (Option Int)) : Prop :=
  ∃ k D, w.ownsMap Tryz.prog 2 (plainElem (H := Unit) Tryz.prog 2) b k D ∧ k + m.countP (·.isNone) ≤ m.length ∧
    ∀ t : Int, D.atKey (.int .i64 t) (.lit (.int .i64 0)) = .lit (.int .i64 ((mAt m t).getD 0)) ∧ Maps.has D (.int .i64 t) = (mAt m t).isSome

theorem MapH.lt {w : World} {b : Nat} {m : List (Option Int)} (h : MapH w b m) : b < w.heap.size := let ⟨_, _, h, _⟩ := h; h.lt

theorem MapH.kept {w w' : World} {b : Nat} {m : List (Option Int)} {row : Option Nat} (h : MapH w b m) (hg : w.grownBy w' row) (hne : some b ≠ row) : MapH w' b m := by
  obtain ⟨k, D, h1, h2⟩ := h
  exact ⟨k, D, h1.kept hg hne, h2⟩

theorem MapH.below {w w' : World} {b : Nat} {m : List (Option Int)} (h : MapH w b m) (hb : Below w.heap.size w w') : MapH w' b m :=
  h.kept (row := none) ⟨hb.os, hb.tape, hb.output, hb.size, fun k hk _ => hb.block k hk⟩ (by simp)

theorem MapH.setFar {w : World} {b : Nat} {m : List (Option Int)} (h : MapH w b m) (q : Addr) (u : Value) (hq : b ≠ q.block) : MapH (w.setCell q u) b m := by
  obtain ⟨k, D, h1, h2⟩ := h
  exact ⟨k, D, h1.setCell hq u, h2⟩

theorem wf_nat (t : Nat) (h : t ≤ 1048576) : (Lit.int .i64 (t : Int)).wf = true := WalkArith.wf_i64 (by omega)

/-- v, ok := m[t], of any number -/
theorem MapH.lookI {w : World} {b : Nat} {m : List (Option Int)} (h : MapH w b m) (t : Int) (ht : -9223372036854775808 ≤ t ∧ t ≤ 9223372036854775807) :
    (Instr.lookup 208 (.map (some b)) (.int .i64 t) true).run Tryz.prog w = .ok (.tuple #[.int .i64 ((mAt m t).getD 0), .bool (mAt m t).isSome]) w ∧
    (Instr.lookup 208 (.map (some b)) (.int .i64 t) false).run Tryz.prog w = .ok (.int .i64 ((mAt m t).getD 0)) w := by
  obtain ⟨k, D, h1, _, h2⟩ := h
  obtain ⟨ha, hh⟩ := h2 t
  have hkey := keyOf_int_mk (P := Tryz.prog) (k := 2) Tryz.underlying2 (WalkArith.wf_i64 ht)
  constructor
  · obtain ⟨v, ps, hrun, hv⟩ := h1.look_ok key64 (t := 208) Tryz.underlying208 (zero64 w) (plainElem_int Tryz.underlying2 (by decide)) hkey
    rw [ha] at hv
    obtain ⟨c, rfl, hc, _⟩ := plainElem_int_inv Tryz.underlying2 hv
    simp only [Prod.mk.injEq, DataW.lit.injEq, Lit.int.injEq, true_and] at hc
    rw [hrun, hh, hc.1]
  · obtain ⟨c, hrun, hc, _⟩ := h1.lookup_int key64 (t := 208) Tryz.underlying208 Tryz.underlying2 (zero64 w) hkey
    rw [ha] at hc
    simp only [DataW.lit.injEq, Lit.int.injEq, true_and] at hc
    rw [hrun, hc]

/-- .. of a place -/
theorem MapH.look {w : World} {b : Nat} {m : List (Option Int)} (h : MapH w b m) (hl : m.length ≤ 1048576) (t : Nat) (ht : t < m.length) :
    (Instr.lookup 208 (.map (some b)) (.int .i64 t) true).run Tryz.prog w = .ok (.tuple #[.int .i64 ((m.getD t none).getD 0), .bool (m.getD t none).isSome]) w ∧
    (Instr.lookup 208 (.map (some b)) (.int .i64 t) false).run Tryz.prog w = .ok (.int .i64 ((m.getD t none).getD 0)) w := by
  have := h.lookI (t : Int) (by omega)
  rwa [mAt_nat] at this

theorem getD_setO (l : List (Option Int)) (j k : Nat) (x : Option Int) (hj : j < l.length) : (l.set j x).getD k none = if j = k then x else l.getD k none := by
  simp only [List.getD, List.getElem?_set]
  by_cases h : j = k
  · subst h; simp [hj]
  · simp [h]

theorem countP_setO {m : List (Option Int)} {k : Nat} {x : Int} (hk : k < m.length) (hn : m.getD k none = none) : (m.set k (some x)).countP (·.isNone) + 1 = m.countP (·.isNone) := by
  induction m generalizing k with
  | nil => simp at hk
  | cons a m ih =>
    cases k with
    | zero =>
      simp at hn
      subst hn
      simp
    | succ k =>
      have := ih (k := k) (by simpa using hk) (by simpa using hn)
      simp only [List.set_cons_succ, List.countP_cons]
      omega

theorem atKey_lit_ne {t t' : Int} (h : t ≠ t') : (Lit.int .i64 t) ≠ Lit.int .i64 t' := by
  intro e
  simp only [Lit.int.injEq, true_and] at e
  exact h e

/-- m[t] = x, of a place that it has not -/
theorem MapH.update {w : World} {b : Nat} {m : List (Option Int)} (h : MapH w b m) (hl : m.length ≤ 1048576) (t : Nat) (ht : t < m.length) (hn : m.getD t none = none) (x : Int) (hx : (Lit.int .i64 x).wf = true) :
    ∃ w', (Instr.mapUpdate 208 (.map (some b)) (.int .i64 t) (.int .i64 x)).run Tryz.prog w = .ok () w' ∧ MapH w' b (m.set t (some x)) ∧ w.grownBy w' (some b) ∧ w'.heap.size = w.heap.size := by
  obtain ⟨k, D, h1, hk, h2⟩ := h
  have hkey := keyOf_int_mk (P := Tryz.prog) (k := 2) Tryz.underlying2 (wf_nat t (by omega))
  have hc := countP_setO (x := x) ht hn
  obtain ⟨w', hrun, hown, hg⟩ := h1.store key64 (t := 208) Tryz.underlying208 (by unfold maxLen; omega) hkey (plainElem_int Tryz.underlying2 hx)
  refine ⟨w', hrun, ⟨k + 1, _, hown, by simp only [List.length_set]; omega, fun t' => ?_⟩, hg.grown, by obtain ⟨_, _, _, _, _, rfl⟩ := hg; simp [ChangeMaps.setBlock]⟩
  rw [mAt_set _ _ _ _ ht]
  by_cases he : (t : Int) = t'
  · subst he
    rw [if_pos rfl]
    exact ⟨atKey_put_same h1.isMap (by simp [WideAt.IsKeyLit]) _ _, has_put_same h1.isMap (by simp [WideAt.IsKeyLit]) _⟩
  · rw [if_neg he]
    obtain ⟨a1, a2⟩ := h2 t'
    have hne := atKey_lit_ne (Ne.symm he)
    exact ⟨by rw [atKey_put_other hne]; exact a1, by rw [has_put_other hne]; exact a2⟩

theorem rep_none (n t : Nat) : (List.replicate n (none : Option Int)).getD t none = none := by
  simp only [List.getD, List.getElem?_replicate]
  split <;> rfl

/-- the map that is just made, with 0 at 0 -/
theorem MapH.start (w : World) (n : Nat) (hn : 1 ≤ n) (hl : n ≤ 1048576) :
    ∃ w', (Instr.mapUpdate 208 (.map (some w.heap.size)) (.int .i64 0) (.int .i64 0)).run Tryz.prog (w.alloc (.map #[] 0)) = .ok () w' ∧ MapH w' w.heap.size ((List.replicate n none).set 0 (some 0)) ∧ (w.alloc (.map #[] 0)).grownBy w' (some w.heap.size) ∧ w'.heap.size = w.heap.size + 1 := by
  have h0 : MapH (w.alloc (.map #[] 0)) w.heap.size (List.replicate n none) := by
    refine ⟨0, .map [], World.ownsMap_made _ _ _ _, by simp [List.countP_replicate], fun t => ?_⟩
    rw [show mAt (List.replicate n none) t = none by unfold mAt; split; exact rep_none _ _; rfl]
    exact ⟨rfl, rfl⟩
  have := h0.update (by simpa using hl) 0 (by rw [List.length_replicate]; omega) (rep_none n 0) 0 (by decide)
  simpa using this
end Go.Proofs.YtnknnncehcofnaaGreatDoor

namespace Go.Proofs.YtnknnncehcofnaaGreatDoor
open Go.RowKit

theorem Box.grown {w w' : World} {B : Nat} {C : Array Value} {row : Option Nat} (h : Box w B C) (hg : w.grownBy w' row) (hne : some B ≠ row) : Box w' B C :=
  ⟨Nat.lt_of_lt_of_le h.1 hg.size, fun j => by rw [World.cell?_of_block (w := w) (hg.block B h.1 hne)]; exact h.2 j⟩

theorem VRow.grown {w w' : World} {b : Nat} {vs : List Value} {row : Option Nat} (h : VRow w b vs) (hg : w.grownBy w' row) (hne : some b ≠ row) : VRow w' b vs :=
  ⟨Nat.lt_of_lt_of_le h.1 hg.size, fun j hj => by rw [World.cell?_of_block (w := w) (hg.block b h.1 hne), World.frozen?_of_block (w := w) (hg.block b h.1 hne)]; exact h.2 j hj⟩

/-- what stands in memory as heights are found; what waits does not lie in block G -/
structure ImS (w wr : World) (G : Nat) (prg ins : Value) (s : IS) : Prop where
  box : Box wr w.heap.size #[prg]
  hb : VRow wr (w.heap.size + 1) [.map (some (w.heap.size + 1 + 1 + 1))]
  ib : Box wr (w.heap.size + 1 + 1) #[ins]
  map : MapH wr (w.heap.size + 1 + 1 + 1) s.m
  wb : ∃ b off cap, VRow wr (w.heap.size + 1 + 1 + 1 + 1 + 1) [.slice (some ⟨b, off, none⟩) s.L.length cap] ∧ OwnAt (w.heap.size + 1 + 1 + 1 + 1) wr b off cap (nats s.L) ∧ b ≠ w.heap.size + 1 + 1 + 1 + 1 + 1 ∧ b ≠ G
  bel : Below w.heap.size w wr

theorem ImS.below {w wr w1 : World} {G : Nat} {prg ins : Value} {s : IS} (h : ImS w wr G prg ins s) (hb : Below wr.heap.size wr w1) : ImS w w1 G prg ins s := by
  obtain ⟨b, off, cap, h1, h2, h3⟩ := h.wb
  exact ⟨h.box.below hb, h.hb.below hb, h.ib.below hb, h.map.below hb, ⟨b, off, cap, h1.below hb, h2.below hb, h3⟩, h.bel.trans (hb.mono h.bel.size)⟩

theorem ImS.setWaits {w wr : World} {G : Nat} {prg ins : Value} {s : IS} (h : ImS w wr G prg ins s) (L : List Nat) (b off n cap : Nat) (ho : OwnAt (w.heap.size + 1 + 1 + 1 + 1) wr b off cap (nats L)) (hb : b ≠ w.heap.size + 1 + 1 + 1 + 1 + 1) (hG : b ≠ G) (hn : n = L.length) :
    ImS w (wr.setCell ⟨w.heap.size + 1 + 1 + 1 + 1 + 1, 0, none⟩ (.slice (some ⟨b, off, none⟩) n cap)) G prg ins ⟨s.m, L⟩ := by
  subst hn
  obtain ⟨b0, off0, cap0, h1, _, _⟩ := h.wb
  exact ⟨h.box.set_far _ _ (by show w.heap.size + 1 + 1 + 1 + 1 + 1 ≠ w.heap.size; omega), h.hb.set_far _ _ (by show w.heap.size + 1 + 1 + 1 + 1 + 1 ≠ w.heap.size + 1; omega),
    h.ib.set_far _ _ (by show w.heap.size + 1 + 1 + 1 + 1 + 1 ≠ w.heap.size + 1 + 1; omega), h.map.setFar _ _ (by show w.heap.size + 1 + 1 + 1 ≠ w.heap.size + 1 + 1 + 1 + 1 + 1; omega),
    ⟨b, off, cap, h1.set_at 0 _ (by simp), ho.setFar _ _ (by exact hb), hb, hG⟩, h.bel.setCell (by show w.heap.size ≤ w.heap.size + 1 + 1 + 1 + 1 + 1; omega) _⟩

/-- another block that came later -/
theorem ImS.other {w wr w1 : World} {G : Nat} {prg ins : Value} {s : IS} (h : ImS w wr G prg ins s) (hb : Below wr.heap.size wr w1) (G' : Nat) (hG : wr.heap.size ≤ G' ∨ G' ≤ w.heap.size) : ImS w w1 G' prg ins s := by
  obtain ⟨b, off, cap, h1, h2, h3, _⟩ := h.wb
  have hl := h2.low
  have ht := h2.lt
  exact ⟨h.box.below hb, h.hb.below hb, h.ib.below hb, h.map.below hb, ⟨b, off, cap, h1.below hb, h2.below hb, h3, by omega⟩, h.bel.trans (hb.mono h.bel.size)⟩

set_option maxRecDepth 100000 in
set_option maxHeartbeats 1600000 in
theorem implGoOn (w wr : World) (G : Nat) (prg : Value) (Ac : Option Addr) (n capc : Nat) (s : IS) (next : Int) (t : Nat) (h : ImS w wr G prg (.slice Ac n capc) s) (hG : G < wr.heap.size) (hG3 : G ≠ w.heap.size + 1 + 1 + 1) (hG5 : G ≠ w.heap.size + 1 + 1 + 1 + 1 + 1) (ho : IOk n s) (hn : n ≤ 1048576) (ht : t ≤ n) (hx : (Lit.int .i64 next).wf = true) :
    Calls Tryz.prog 206 #[.int .i64 t, .int .i64 next, .pointer (some ⟨w.heap.size + 1 + 1, 0, none⟩), .pointer (some ⟨w.heap.size + 1, 0, none⟩), .pointer (some ⟨w.heap.size + 1 + 1 + 1 + 1 + 1, 0, none⟩)] wr fun e w' =>
      match stepI next t s with
      | .inl s' => e = .returned (.int .i64 0) ∧ ImS w w' G prg (.slice Ac n capc) s' ∧ w'.heap[G]? = wr.heap[G]? ∧ wr.heap.size ≤ w'.heap.size
      | .inr c => e = .returned (.int .i64 c) ∧ ImS w w' G prg (.slice Ac n capc) s ∧ w'.heap[G]? = wr.heap[G]? ∧ wr.heap.size ≤ w'.heap.size := by
  have Hh : Hid (ImS w wr G prg (.slice Ac n capc) s) := h
  have Ho : Hid (IOk n s) := ho
  have hl := ho.len
  have c0 := h.ib.at0
  have c1 := (h.hb.2 0 (by simp)).1
  have z0 := h.ib.1
  have z1 := h.hb.1
  simp only [List.getElem_cons_zero] at c1
  clear h ho
  by_cases h6 : t = n
  · subst h6
    have HS : Hid (stepI next t s = .inr 6) := by
      show stepI next t s = .inr 6
      unfold stepI
      rw [if_pos (by rw [hl])]
    rw [HS.out]
    go_enter Tryz.func206, Tryz.ntmps206
    go_wp2_with fail
    go_ret
    exact ⟨rfl, Hh.out, rfl, Nat.le_refl _⟩
  · have ht' : t < s.m.length := by omega
    obtain ⟨hlook, _⟩ := Hh.out.map.look (by omega) t ht'
    have hne : ((t : Int) == (n : Int)) = false := by simp; omega
    cases hm : s.m.getD t none with
    | some hh =>
      rw [hm] at hlook
      simp only [Option.getD_some, Option.isSome_some] at hlook
      by_cases hq : hh = next
      · subst hq
        have HS : Hid (stepI hh t s = .inl s) := by
          show stepI hh t s = .inl s
          unfold stepI
          rw [if_neg (by rw [hl]; omega), Int.toNat_natCast, hm]
          simp
        rw [HS.out]
        clear hm
        go_enter Tryz.func206, Tryz.ntmps206
        go_wp2_with fail
        go_ret
        exact ⟨rfl, Hh.out, rfl, Nat.le_refl _⟩
      · have HS : Hid (stepI next t s = .inr 5) := by
          show stepI next t s = .inr 5
          unfold stepI
          rw [if_neg (by rw [hl]; omega), Int.toNat_natCast, hm]
          simp [hq]
        rw [HS.out]
        have hq' : (hh != next) = true := by simpa using hq
        clear hm
        go_enter Tryz.func206, Tryz.ntmps206
        go_wp2_with fail
        go_ret
        exact ⟨rfl, Hh.out, rfl, Nat.le_refl _⟩
    | none =>
      rw [hm] at hlook
      simp only [Option.getD_none, Option.isSome_none] at hlook
      have HS : Hid (stepI next t s = .inl ⟨s.m.set t (some next), putIn t s.L⟩) := by
        show stepI next t s = _
        unfold stepI
        rw [if_neg (by rw [hl]; omega), Int.toNat_natCast, hm]
      rw [HS.out]
      obtain ⟨w1, hup, hM1, hg1, hsz1⟩ := Hh.out.map.update (by omega) t ht' hm next hx
      obtain ⟨b, off, cap, hw1, hO1, hbn, hbG⟩ := Hh.out.wb
      have hlow := hO1.low
      have HW : Hid (VRow w1 (w.heap.size + 1 + 1 + 1 + 1 + 1) [.slice (some ⟨b, off, none⟩) s.L.length cap]) := hw1.grown hg1 (by simp; omega)
      have HO : Hid (OwnAt (w.heap.size + 1 + 1 + 1 + 1) w1 b off cap (nats s.L)) := hO1.grown hg1 (by simp; omega)
      have HM : Hid (MapH w1 (w.heap.size + 1 + 1 + 1) (s.m.set t (some next))) := hM1
      have Hg : Hid (wr.grownBy w1 (some (w.heap.size + 1 + 1 + 1))) := hg1
      have d0 := (HW.out.2 0 (by simp)).1
      simp only [List.getElem_cons_zero] at d0
      have z2 := HW.out.1
      have hsz : w.heap.size + 1 + 1 + 1 + 1 ≤ w1.heap.size := by omega
      have hlL : s.L.length ≤ 1048576 := by
        have := Ho.out.rise
        have hb := fun j (hj : j ∈ s.L) => (Ho.out.has j hj).1
        exact Nat.le_trans (rise_length s.L n this hb) hn
      clear hM1 hg1 hw1 hO1 hm
      go_enter Tryz.func206, Tryz.ntmps206
      go_wp2_with fail
      refine (implRise b off cap s.L t _ HO.out Ho.out.rise hlL hsz).mono ?_
      rintro e w2 ⟨b', off', cap', rfl, ho2, hg2, hw2⟩
      have HW2 : Hid (VRow w2 (w.heap.size + 1 + 1 + 1 + 1 + 1) [.slice (some ⟨b, off, none⟩) s.L.length cap]) := HW.out.grown hg2 (by simp; omega)
      have e0 := (HW2.out.2 0 (by simp)).1
      have e1 := (HW2.out.2 0 (by simp)).2
      have z3 := HW2.out.1
      simp only [List.getElem_cons_zero] at e0
      have hb' : b' ≠ w.heap.size + 1 + 1 + 1 + 1 + 1 := by omega
      have hbG' : b' ≠ G := by omega
      have HF : Hid (ImS w (w2.setCell ⟨w.heap.size + 1 + 1 + 1 + 1 + 1, 0, none⟩ (.slice (some ⟨b', off', none⟩) (s.L.length + 1) cap')) G prg (.slice Ac n capc) ⟨s.m.set t (some next), putIn t s.L⟩) := by
        have hl2 := putIn_length t s.L
        refine ⟨((Hh.out.box.grown Hg.out (by simp; omega)).grown hg2 (by simp; omega)).set_far _ _ (by show w.heap.size + 1 + 1 + 1 + 1 + 1 ≠ w.heap.size; omega),
          ((Hh.out.hb.grown Hg.out (by simp)).grown hg2 (by simp; omega)).set_far _ _ (by show w.heap.size + 1 + 1 + 1 + 1 + 1 ≠ w.heap.size + 1; omega),
          ((Hh.out.ib.grown Hg.out (by simp)).grown hg2 (by simp; omega)).set_far _ _ (by show w.heap.size + 1 + 1 + 1 + 1 + 1 ≠ w.heap.size + 1 + 1; omega),
          (HM.out.kept hg2 (by simp; omega)).setFar _ _ (by show w.heap.size + 1 + 1 + 1 ≠ w.heap.size + 1 + 1 + 1 + 1 + 1; omega),
          ⟨b', off', cap', ?_, ho2.setFar _ _ (by exact hb'), hb', hbG'⟩, ?_⟩
        · have := HW2.out.set_at 0 (.slice (some ⟨b', off', none⟩) (s.L.length + 1) cap') (by simp)
          rw [hl2]
          exact this
        · exact ((Hh.out.bel.grown Hg.out (by omega) (fun k hk => by cases hk; omega)).grown hg2 (by have := Hg.out.size; omega) (fun k hk => by cases hk; omega)).setCell (by show w.heap.size ≤ w.heap.size + 1 + 1 + 1 + 1 + 1; omega) _
      have HG : Hid ((w2.setCell ⟨w.heap.size + 1 + 1 + 1 + 1 + 1, 0, none⟩ (.slice (some ⟨b', off', none⟩) (s.L.length + 1) cap')).heap[G]? = wr.heap[G]? ∧ wr.heap.size ≤ (w2.setCell ⟨w.heap.size + 1 + 1 + 1 + 1 + 1, 0, none⟩ (.slice (some ⟨b', off', none⟩) (s.L.length + 1) cap')).heap.size) :=
        ⟨(Below.heap_setCell w2 _ _ G (by exact hG5)).trans ((hg2.block G (by omega) (by simp; omega)).trans (Hg.out.block G hG (by simp; omega))), by have := hg2.size; simp; omega⟩
      clear ho2 hg2 hw2 HW2 HW HO HM Hg d0
      go_wp2_with fail
      go_ret
      exact ⟨rfl, HF.out, HG.out⟩
end Go.Proofs.YtnknnncehcofnaaGreatDoor

namespace Go.Proofs.YtnknnncehcofnaaGreatDoor
open Go.RowKit

/-- what an instruction leaves, and the fault, as the program tells both -/
def behindL (p : List FnM) (hh : Int) (i : Int × Int) : Int := if badAt p hh i then 0 else leaves p hh i
def behindC (p : List FnM) (hh : Int) (i : Int × Int) : Int := if badAt p hh i then 5 else 0

theorem leaves_eqI (p : List FnM) (h op a : Int) : wrap64 (wrap64 (h - takesM p op a) + (opRow op).2.2.2) = leaves p h (op, a) := rfl

set_option maxHeartbeats 800000 in
theorem implBehind {B : Nat} (v : Value) (p : List FnM) (op a hh : Int) (w : World) (ht : Tab w) (hr : FnRow B w v p) :
    Calls Tryz.prog 208 #[.agg #[v], .agg #[.int .i64 op, .int .i64 a], .int .i64 hh] w fun e w' => e = .returned (.tuple #[.int .i64 (behindL p hh (op, a)), .int .i64 (behindC p hh (op, a))]) ∧ Below w.heap.size w w' := by
  have Hr : Hid (FnRow B w v p) := hr
  have Ht : Hid (Tab w) := ht
  obtain ⟨A, cap, rfl⟩ := hr.form
  clear hr ht
  obtain ⟨x0, x1, x2⟩ := boxes_new w #[.slice A p.length cap] #[.int .i64 op, .int .i64 a] 25 112
  have X0 : Hid (Box _ _ _) := x0
  have X1 : Hid (Box _ _ _) := x1
  have X2 : Hid (Below _ _ _) := x2
  clear x0 x1 x2
  go_enter Tryz.func208, Tryz.ntmps208
  go_wp2_with fail
  refine (implTakes _ p op a _ (Ht.out.below X2.out) (Hr.out.below X2.out)).mono ?_
  rintro e w1 ⟨rfl, hb1⟩
  have Hb1 : Hid (Below w.heap.size w w1) := X2.out.trans (hb1.mono X2.out.size)
  have HB1 : Hid (Box w1 (w.heap.size + 1) #[.int .i64 op, .int .i64 a]) := X1.out.below hb1
  have Ht1 : Hid (Tab w1) := Ht.out.below Hb1.out
  have d0 := HB1.out.at0
  have d1 := HB1.out.at1
  have dz := HB1.out.1
  clear hb1 X0 X1 X2 Hr Ht
  obtain ⟨tk, Htk⟩ : ∃ tk, Hid (tk = takesM p op a) := ⟨_, rfl⟩
  rw [← Htk.out]
  by_cases h1 : hh < tk
  · have HL : Hid (behindL p hh (op, a) = 0 ∧ behindC p hh (op, a) = 5) := by
      rw [Htk.out] at h1
      have hb : badAt p hh (op, a) := .inl h1
      exact ⟨if_pos hb, if_pos hb⟩
    go_wp2_with fail
    exact bodyPost_ret (v := .tuple #[.int .i64 0, .int .i64 5]) (by simp [results, Tryz.results208, go_sem]) rfl ⟨by rw [HL.out.1, HL.out.2], Hb1.out⟩
  · go_wp2_with fail
    refine (implPuts op a _ Ht1.out).mono ?_
    rintro e w2 ⟨rfl, hb2⟩
    have Hb2 : Hid (Below w.heap.size w w2) := Hb1.out.trans (hb2.mono Hb1.out.size)
    clear hb2 d0 d1 dz
    obtain ⟨nx, Hnx⟩ : ∃ nx, Hid (nx = leaves p hh (op, a)) := ⟨_, rfl⟩
    have hnx := leaves_eqI p hh op a
    rw [← Htk.out, ← Hnx.out] at hnx
    by_cases h2 : 8 < nx
    · have HL : Hid (behindL p hh (op, a) = 0 ∧ behindC p hh (op, a) = 5) := by
        rw [Hnx.out] at h2
        have hb : badAt p hh (op, a) := .inr h2
        exact ⟨if_pos hb, if_pos hb⟩
      go_wp2_with fail
      exact bodyPost_ret (v := .tuple #[.int .i64 0, .int .i64 5]) (by simp [results, Tryz.results208, go_sem]) rfl ⟨by rw [HL.out.1, HL.out.2], Hb2.out⟩
    · have HL : Hid (behindL p hh (op, a) = nx ∧ behindC p hh (op, a) = 0) := by
        rw [Htk.out] at h1
        rw [Hnx.out] at h2
        have hb : ¬ badAt p hh (op, a) := not_or.2 ⟨Int.not_lt.2 (by omega), h2⟩
        exact ⟨(if_neg hb).trans Hnx.out.symm, if_neg hb⟩
      go_wp2_with fail
      exact bodyPost_ret (v := .tuple #[.int .i64 nx, .int .i64 0]) (by simp [results, Tryz.results208, go_sem, hnx]) rfl ⟨by rw [HL.out.1, HL.out.2], Hb2.out⟩

theorem irow_lit (w : World) (zs : List Int) (hn : zs.length ≤ 9223372036854775807) (B cap : Nat) (hB : B ≤ w.heap.size) : IRow B (w.alloc (.cells (ints zs).toArray 2)) (.slice (some ⟨w.heap.size, 0, none⟩) zs.length cap) zs := by
  have y := vrow_new w (ints zs).toArray 2
  rw [List.toList_toArray] at y
  exact IRow.of_vrow cap y hB hn

set_option maxHeartbeats 800000 in
theorem implPlaces (k : Nat) (op a : Int) (w : World) (hk : k ≤ 1048576) :
    Calls Tryz.prog 164 #[.agg #[.int .i64 op, .int .i64 a], .int .i64 k] w fun e w' => ∃ v, e = .returned v ∧ IRow w.heap.size w' v (goesTo k (op, a)) ∧ Below w.heap.size w w' := by
  have Hb : Hid (∀ o : Obj, Below w.heap.size w (w.alloc o)) := fun o => (Below.refl _ _).alloc (Nat.le_refl _) _
  have Hb2 : Hid (∀ o o' : Obj, Below w.heap.size w ((w.alloc o).alloc o')) := fun o o' => ((Below.refl _ _).alloc (Nat.le_refl _) _).alloc (by simp) _
  have HI : Hid (∀ o zs, zs.length ≤ 9223372036854775807 → ∀ cap, IRow w.heap.size ((w.alloc o).alloc (.cells (ints zs).toArray 2)) (.slice (some ⟨w.heap.size + 1, 0, none⟩) zs.length cap) zs) := fun o zs hz cap => by
    have := irow_lit (w.alloc o) zs hz w.heap.size cap (by simp)
    rwa [show (w.alloc o).heap.size = w.heap.size + 1 by simp] at this
  by_cases h33 : op = 33
  · subst h33
    go_enter Tryz.func164, Tryz.ntmps164
    go_wp2_with fail
    go_ret
    exact ⟨_, rfl, ⟨none, 0, rfl, by simp [goesTo], fun i hi => absurd hi (by simp [goesTo])⟩, Hb.out _⟩
  · have n33 : (op == 33) = false := by simpa using h33
    by_cases h30 : op = 30
    · subst h30
      clear n33 h33
      go_enter Tryz.func164, Tryz.ntmps164
      go_wp2_with fail
      go_ret
      exact ⟨_, rfl, HI.out _ [a] (by simp) 1, Hb2.out _ _⟩
    · have n30 : (op == 30) = false := by simpa using h30
      by_cases h31 : op = 31
      · subst h31
        clear n33 h33 n30 h30
        go_enter Tryz.func164, Tryz.ntmps164
        go_wp2_with fail
        go_ret
        exact ⟨_, rfl, HI.out _ [(k : Int) + 1, a] (by simp) 2, Hb2.out _ _⟩
      · have n31 : (op == 31) = false := by simpa using h31
        have HG : Hid (goesTo k (op, a) = [(k : Int) + 1]) := by
          show goesTo k (op, a) = _
          simp [goesTo, h33, h30, h31]
        go_enter Tryz.func164, Tryz.ntmps164
        go_wp2_with fail
        go_ret
        exact ⟨_, rfl, by rw [HG.out]; exact HI.out _ [(k : Int) + 1] (by simp) 1, Hb2.out _ _⟩

set_option maxHeartbeats 1600000 in
theorem implSizes {B : Nat} (x y : Int) (v : Value) (c : List (Int × Int)) (w : World) (hr : InsRow B w v c) :
    Calls Tryz.prog 200 #[.agg #[.int .i64 x, .int .i64 y, v]] w fun e w' => e = .returned (.bool (formOk ⟨x, y, c⟩)) ∧ Below w.heap.size w w' := by
  have Hb : Hid (∀ o : Obj, Below w.heap.size w (w.alloc o)) := fun o => (Below.refl _ _).alloc (Nat.le_refl _) _
  obtain ⟨A, cap, rfl, hl, _⟩ := hr
  obtain ⟨n, Hn⟩ : ∃ n, Hid (n = c.length) := ⟨_, rfl⟩
  rw [← Hn.out] at hl ⊢
  by_cases h1 : 0 ≤ x
  · by_cases h2 : x ≤ 4
    · by_cases h3 : x ≤ y
      · by_cases h4 : y ≤ 8
        · by_cases h5 : 1 ≤ n
          · have HT : Hid (formOk ⟨x, y, c⟩ = decide (n ≤ 60)) := by
              show formOk ⟨x, y, c⟩ = _
              rw [Hn.out] at h5
              rw [Hn.out]
              simp [formOk, h1, h2, h3, h4, h5]
            have h5' : (1 : Int) ≤ n := by omega
            by_cases h6 : n ≤ 60
            · have h6' : (n : Int) ≤ 60 := by omega
              go_enter Tryz.func200, Tryz.ntmps200
              go_wp2_with fail
              go_ret
              exact ⟨by rw [HT.out]; simp [h6], Hb.out _⟩
            · have h6' : decide ((n : Int) ≤ 60) = false := by simp; omega
              go_enter Tryz.func200, Tryz.ntmps200
              go_wp2_with fail
              go_ret
              exact ⟨by rw [HT.out]; simp [h6], Hb.out _⟩
          · have h5' : decide ((1 : Int) ≤ n) = false := by simp; omega
            have HT : Hid (formOk ⟨x, y, c⟩ = false) := by
              show formOk ⟨x, y, c⟩ = _
              rw [Hn.out] at h5
              simp only [formOk, decide_eq_false_iff_not]
              omega
            go_enter Tryz.func200, Tryz.ntmps200
            go_wp2_with fail
            go_ret
            exact ⟨by rw [HT.out]; rfl, Hb.out _⟩
        · have h4' : decide (y ≤ 8) = false := by simp; omega
          have HT : Hid (formOk ⟨x, y, c⟩ = false) := by
            show formOk ⟨x, y, c⟩ = _
            simp only [formOk, decide_eq_false_iff_not]
            omega
          go_enter Tryz.func200, Tryz.ntmps200
          go_wp2_with fail
          go_ret
          exact ⟨by rw [HT.out]; rfl, Hb.out _⟩
      · have h3' : decide (x ≤ y) = false := by simp; omega
        have HT : Hid (formOk ⟨x, y, c⟩ = false) := by
          show formOk ⟨x, y, c⟩ = _
          simp only [formOk, decide_eq_false_iff_not]
          omega
        go_enter Tryz.func200, Tryz.ntmps200
        go_wp2_with fail
        go_ret
        exact ⟨by rw [HT.out]; rfl, Hb.out _⟩
    · have h2' : decide (x ≤ 4) = false := by simp; omega
      have HT : Hid (formOk ⟨x, y, c⟩ = false) := by
        show formOk ⟨x, y, c⟩ = _
        simp only [formOk, decide_eq_false_iff_not]
        omega
      go_enter Tryz.func200, Tryz.ntmps200
      go_wp2_with fail
      go_ret
      exact ⟨by rw [HT.out]; rfl, Hb.out _⟩
  · have h1' : decide (0 ≤ x) = false := by simp; omega
    have HT : Hid (formOk ⟨x, y, c⟩ = false) := by
      show formOk ⟨x, y, c⟩ = _
      simp only [formOk, decide_eq_false_iff_not]
      omega
    go_enter Tryz.func200, Tryz.ntmps200
    go_wp2_with fail
    go_ret
    exact ⟨by rw [HT.out]; rfl, Hb.out _⟩
end Go.Proofs.YtnknnncehcofnaaGreatDoor
