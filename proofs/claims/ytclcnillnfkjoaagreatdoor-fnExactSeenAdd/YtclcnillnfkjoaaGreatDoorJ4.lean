/- laws.toProgram and what it calls: what it makes reads as what it was given, in memory of its own that may be written. laws.markProgram and what it calls: it writes into the program's own memory alone. Marks in profiles: laws.toSeenS into memory of its own, markSeenS, heldSeenS. -/
import Derived.Test.YtclcnillnfkjoaaGreatDoorPrgTo
import Derived.Test.YtclcnillnfkjoaaGreatDoorPrgSz
import Derived.Deep.LoopGhost
import Derived.Test.YtclcnillnfkjoaaGreatDoorSeen
namespace Go.Proofs.YtclcnillnfkjoaaGreatDoor
open Go.RowKit

/-- no cell from block B on is frozen -/
def Thaw (B : Nat) (w : World) : Prop := ∀ b j, B ≤ b → w.frozen? ⟨b, j, none⟩ = false

theorem Thaw.fresh (w : World) : Thaw w.heap.size w := fun b j h => by
  have : w.heap[b]? = none := by simp; exact h
  simp [World.frozen?, this]
theorem Thaw.set {B : Nat} {w : World} (h : Thaw B w) (q : Addr) (u : Value) : Thaw B (w.setCell q u) := fun b j hb => by simpa using h b j hb
theorem Thaw.alloc {B : Nat} {w : World} (h : Thaw B w) (C : Array Value) (t : TypeId) : Thaw B (w.alloc (.cells C t)) := fun b j hb => by
  by_cases he : b = w.heap.size
  · subst he; exact World.frozen?_alloc_at _ _ _ _ rfl
  · by_cases hl : b < w.heap.size
    · rw [World.frozen?_alloc_past _ _ _ (by exact hl)]; exact h b j hb
    · have : (w.alloc (.cells C t)).heap[b]? = none := by simp; omega
      simp [World.frozen?, this]
/-- behind a call -/
theorem Thaw.call {B : Nat} {w w' : World} (h : Thaw B w) (hb : Below w.heap.size w w') (h' : Thaw w.heap.size w') : Thaw B w' := fun b j hB => by
  by_cases hl : b < w.heap.size
  · rw [hb.frozen (by exact hl)]; exact h b j hB
  · exact h' b j (by omega)
theorem Thaw.up {B B' : Nat} {w : World} (h : Thaw B w) (hB : B ≤ B') : Thaw B' w := fun b j hb => h b j (Nat.le_trans hB hb)
theorem Thaw.below {B : Nat} {w w' : World} (h : Thaw B w) (hb : Below w.heap.size w w') : ∀ b j, B ≤ b → b < w.heap.size → w'.frozen? ⟨b, j, none⟩ = false := fun b j h1 h2 => by rw [hb.frozen (by exact h2)]; exact h b j h1

/-- a slice of n instructions, its cells in blocks from B on, ahead of U -/
def CodeRow (B U : Nat) (w : World) (v : Value) (n : Nat) : Prop :=
  ∃ A cap, v = .slice A n cap ∧ ∀ i, i < n → ∃ b off, A = some ⟨b, off, none⟩ ∧ B ≤ b ∧ b < U ∧ (w.cell? ⟨b, off + i * 2, none⟩).isSome = true ∧ (w.cell? ⟨b, off + i * 2 + 1, none⟩).isSome = true

/-- a slice of functions that lies in block Bf, their code in blocks behind it -/
def MarkRow (Bf U : Nat) (w : World) (v : Value) (p : List FnM) : Prop :=
  ∃ cap, v = .slice (some ⟨Bf, 0, none⟩) p.length cap ∧ Bf < U ∧ U ≤ w.heap.size ∧ ∀ i (h : i < p.length), ∃ x, (w.cell? ⟨Bf, i * 3, none⟩).isSome = true ∧ (w.cell? ⟨Bf, i * 3 + 1, none⟩).isSome = true ∧ w.cell? ⟨Bf, i * 3 + 2, none⟩ = some x ∧ CodeRow (Bf + 1) U w x p[i].code.length

theorem CodeRow.of {B : Nat} {w : World} {v : Value} {c : List (Int × Int)} (h : InsRow B w v c) : CodeRow B w.heap.size w v c.length := by
  obtain ⟨A, cap, rfl, _, hc⟩ := h
  refine ⟨A, cap, rfl, fun i hi => ?_⟩
  obtain ⟨b, off, h1, h2, h3, h4, h5⟩ := hc i hi
  exact ⟨b, off, h1, h2, h3, by rw [h4]; rfl, by rw [h5]; rfl⟩

theorem CodeRow.kept {B U n : Nat} {w w' : World} {v : Value} (h : CodeRow B U w v n) (hc : ∀ b j, B ≤ b → b < U → (w.cell? ⟨b, j, none⟩).isSome = true → (w'.cell? ⟨b, j, none⟩).isSome = true) : CodeRow B U w' v n := by
  obtain ⟨A, cap, rfl, hh⟩ := h
  refine ⟨A, cap, rfl, fun i hi => ?_⟩
  obtain ⟨b, off, h1, h2, h3, h4, h5⟩ := hh i hi
  exact ⟨b, off, h1, h2, h3, hc _ _ h2 h3 h4, hc _ _ h2 h3 h5⟩

theorem MarkRow.kept {Bf U : Nat} {w w' : World} {v : Value} {p : List FnM} (h : MarkRow Bf U w v p) (hs : w.heap.size ≤ w'.heap.size) (hb : ∀ b, Bf ≤ b → b < U → w'.heap[b]? = w.heap[b]?) : MarkRow Bf U w' v p := by
  obtain ⟨cap, rfl, h1, h2, h3⟩ := h
  have hcell : ∀ b j, Bf ≤ b → b < U → w'.cell? ⟨b, j, none⟩ = w.cell? ⟨b, j, none⟩ := fun b j hB hU => World.cell?_of_block (w := w) (hb b hB hU)
  refine ⟨cap, rfl, h1, Nat.le_trans h2 hs, fun i hi => ?_⟩
  obtain ⟨x, a1, a2, a3, a4⟩ := h3 i hi
  exact ⟨x, by rw [hcell _ _ (Nat.le_refl _) h1]; exact a1, by rw [hcell _ _ (Nat.le_refl _) h1]; exact a2, by rw [hcell _ _ (Nat.le_refl _) h1]; exact a3, a4.kept fun b j hB hU h => by rw [hcell b j (by omega) hU]; exact h⟩

theorem MarkRow.below {Bf U : Nat} {w w' : World} {v : Value} {p : List FnM} (h : MarkRow Bf U w v p) (hb : Below w.heap.size w w') : MarkRow Bf U w' v p :=
  h.kept hb.size fun b _ hU => hb.block b (by obtain ⟨_, _, _, h2, _⟩ := h; omega)

theorem toInsT (x y : Int) (w : World) :
    Calls Tryz.prog 127 #[.agg #[.int .i64 x, .int .i64 y]] w fun e w' => e = .returned (.agg #[.int .i64 x, .int .i64 y]) ∧ Below w.heap.size w w' ∧ Thaw w.heap.size w' := by
  go_enter Tryz.func127, Tryz.ntmps127
  go_wp2
  exact bodyPost_ret (v := .agg #[.int .i64 x, .int .i64 y]) (by simp [results, Tryz.results127, go_sem]) rfl ⟨rfl, (((Below.refl _ _).alloc (Nat.le_refl _) _).alloc (by simp) _).alloc (by simp; omega) _, (((Thaw.fresh w).alloc _ _).alloc _ _).alloc _ _⟩

set_option maxRecDepth 100000 in
set_option maxHeartbeats 800000 in
theorem toInsST {B : Nat} (v : Value) (c : List (Int × Int)) (w : World) (hr : InsRow B w v c) (hn : c.length ≤ 1048576) :
    Calls Tryz.prog 105 #[v] w fun e w' => ∃ v', e = .returned v' ∧ InsRow w.heap.size w' v' c ∧ Below w.heap.size w w' ∧ Thaw w.heap.size w' := by
  obtain ⟨i0, hi, hz0, hz1, hz2⟩ := info_parts Tryz.infoIns
  have hmk := fun (W : World) => run_makeSlice (P := Tryz.prog) W 55 59 i0 _ Tryz.underlying55 hi hz0 .i64 .i64 c.length c.length (by omega) (by omega) (by rw [hz1]; simp; omega) (by rw [hz2]; omega) (by omega)
  simp only [hz1, Int.toNat_natCast] at hmk
  have Hr : Hid (InsRow B w v c) := hr
  obtain ⟨A, cap, rfl, _, hc⟩ := hr
  clear hc
  go_enter Tryz.func105, Tryz.ntmps105
  go_wp2
  clear hmk
  go_loopw [4] (fun i wr => ∃ k : Nat, k ≤ c.length ∧ i = .int .i64 k ∧ Slots wr w.heap.size (c.length * 2) ∧ (Below w.heap.size w wr ∧ Thaw w.heap.size wr) ∧
      ∀ j (h : j < c.length), j < k → wr.cell? ⟨w.heap.size, j * 2, none⟩ = some (.int .i64 c[j].1) ∧ wr.cell? ⟨w.heap.size, j * 2 + 1, none⟩ = some (.int .i64 c[j].2))
    (fun i _ => c.length - (intOf i).toNat)
  case atStart =>
    refine ⟨0, Nat.zero_le _, rfl, ?_, ⟨(Below.refl _ _).alloc (Nat.le_refl _) _, (Thaw.fresh w).alloc _ _⟩, fun j _ h => by omega⟩
    have := slots_new w (madeCells #[Value.int .i64 0, Value.int .i64 0] (c.length * 2)) 59
    rwa [size_madeCells] at this
  case round =>
    obtain ⟨k, hk, rfl, hs, ⟨hb, hth⟩, hcs⟩ := hrel
    have Hth : Hid (Thaw w.heap.size wr) := hth
    clear hth
    by_cases hkl : k < c.length
    · obtain ⟨A', cap', he, _, hc⟩ := Hr.out.below hb
      simp only [Value.slice.injEq] at he
      obtain ⟨rfl, _, rfl⟩ := he
      obtain ⟨b, off, rfl, _, hlt, c0, c1⟩ := hc k hkl
      have Hb : Hid (Below w.heap.size w wr) := hb
      have Hs : Hid (Slots wr w.heap.size (c.length * 2)) := hs
      have Hcs : Hid (∀ j (h : j < c.length), j < k → wr.cell? ⟨w.heap.size, j * 2, none⟩ = some (.int .i64 c[j].1) ∧ wr.cell? ⟨w.heap.size, j * 2 + 1, none⟩ = some (.int .i64 c[j].2)) := hcs
      clear hc hb hs hcs
      go_wp2_with fail
      refine (toInsT _ _ _).mono ?_
      rintro e w1 ⟨rfl, hb1, ht1⟩
      have Ht1 : Hid (Thaw w.heap.size w1) := Hth.out.call hb1 ht1
      clear ht1
      have Hb1 : Hid (Below wr.heap.size wr w1) := hb1
      have Hs1 : Hid (Slots w1 w.heap.size (c.length * 2)) := Hs.out.below hb1
      have hw0 : w.heap.size < w1.heap.size := Hs1.out.1
      obtain ⟨⟨z0, hz0⟩, f0⟩ := Hs1.out.2 (k * 2) (by omega)
      obtain ⟨⟨z1, hz1⟩, f1⟩ := Hs1.out.2 (k * 2 + 1) (by omega)
      clear hb1 c0 c1
      go_wp2_with fail
      go_roundw
      case rel =>
        refine ⟨k + 1, by omega, by go_num, (Hs1.out.set _ _).set _ _, ⟨((Hb.out.trans (Hb1.out.mono Hb.out.size)).setCell (by simp) _).setCell (by simp) _, (Ht1.out.set _ _).set _ _⟩, ?_⟩
        intro j hj hjk
        by_cases he : j = k
        · subst he
          exact ⟨by rw [cell_set_far _ _ _ _ _ (by omega), cell_set_at Hs1.out (by omega)], by rw [cell_set_at (Hs1.out.set _ _) (by omega)]⟩
        · have h1 := Hcs.out j hj (by omega)
          exact ⟨by rw [cell_set_far _ _ _ _ _ (by omega), cell_set_far _ _ _ _ _ (by omega), Hb1.out.cell (by exact Hs.out.1)]; exact h1.1, by rw [cell_set_far _ _ _ _ _ (by omega), cell_set_far _ _ _ _ _ (by omega), Hb1.out.cell (by exact Hs.out.1)]; exact h1.2⟩
      case measure => simp [intOf]; omega
    · go_wp2
      go_ret
      refine ⟨_, rfl, ⟨_, _, rfl, by omega, fun i hi => ⟨w.heap.size, 0, rfl, Nat.le_refl _, hs.1, ?_⟩⟩, hb, Hth.out⟩
      simpa using hcs i hi (by omega)

set_option maxHeartbeats 800000 in
theorem toFnT {B : Nat} (x y : Int) (v : Value) (c : List (Int × Int)) (w : World) (hr : InsRow B w v c) (hn : c.length ≤ 1048576) :
    Calls Tryz.prog 77 #[.agg #[.int .i64 x, .int .i64 y, v]] w fun e w' => ∃ v', e = .returned (.agg #[.int .i64 x, .int .i64 y, v']) ∧ InsRow w.heap.size w' v' c ∧ Below w.heap.size w w' ∧ Thaw w.heap.size w' := by
  have Hr : Hid (InsRow B w v c) := hr
  obtain ⟨A, cap, rfl, _, hc⟩ := hr
  clear hc
  go_enter Tryz.func77, Tryz.ntmps77
  go_wp2_with fail
  refine (toInsST _ c _ (Hr.out.below ((((Below.refl _ _).alloc (Nat.le_refl _) _).alloc (by simp) _).alloc (by simp; omega) _)) hn).mono ?_
  rintro e w1 ⟨v', rfl, hi1, hb1, ht1⟩
  have Ht1 : Hid (Thaw w.heap.size w1) := ((((Thaw.fresh w).alloc _ _).alloc _ _).alloc _ _).call hb1 ht1
  clear ht1
  have Hi : Hid (InsRow (w.heap.size + 1 + 1 + 1) w1 v' c) := hi1.lower (by simp)
  obtain ⟨A', cap', rfl⟩ := hi1.form
  obtain ⟨h1, h2, hz, hb⟩ := last_two hb1
  have Hb : Hid (Below w.heap.size w w1) := hb
  clear hb hb1 hi1
  obtain ⟨p0, q0⟩ := h1 0
  obtain ⟨p1, q1⟩ := h1 1
  obtain ⟨p2, q2⟩ := h1 2
  obtain ⟨r0, s0⟩ := h2 0
  obtain ⟨r1, s1⟩ := h2 1
  obtain ⟨r2, s2⟩ := h2 2
  simp at p0 p1 p2 r0 r1 r2
  clear h1 h2
  go_wp2_with fail
  exact bodyPost_ret (v := .agg #[.int .i64 x, .int .i64 y, .slice A' c.length cap']) (by simp [results, Tryz.results77, go_sem, p0, p1, p2]) rfl
    ⟨_, rfl, ((((Hi.out.set (by simp) _).set (by simp) _).set (by simp) _).set (by simp) _).lower (by omega), (((Hb.out.setCell (by simp; omega) _).setCell (by simp) _).setCell (by simp) _).setCell (by simp) _, (((Ht1.out.set _ _).set _ _).set _ _).set _ _⟩

set_option maxRecDepth 100000 in
set_option maxHeartbeats 800000 in
theorem toFnsT {B : Nat} (v : Value) (p : List FnM) (w : World) (hr : FnRow B w v p) (hn : bulk p ≤ 1048576) :
    Calls Tryz.prog 48 #[v] w fun e w' => ∃ v', e = .returned v' ∧ FnRow w.heap.size w' v' p ∧ Below w.heap.size w w' ∧ Thaw w.heap.size w' ∧ ∃ Bf, w.heap.size ≤ Bf ∧ MarkRow Bf w'.heap.size w' v' p := by
  have hl : p.length ≤ 1048576 := by unfold bulk at hn; omega
  obtain ⟨i0, hi, hz0, hz1, hz2⟩ := info_parts Tryz.infoFn
  have hmk := fun (W : World) => run_makeSlice (P := Tryz.prog) W 23 57 i0 _ Tryz.underlying23 hi hz0 .i64 .i64 p.length p.length (by omega) (by omega) (by rw [hz1]; simp; omega) (by rw [hz2]; omega) (by omega)
  simp only [hz1, Int.toNat_natCast] at hmk
  have Hr : Hid (FnRow B w v p) := hr
  obtain ⟨A, cap, rfl, _, hc⟩ := hr
  clear hc
  go_enter Tryz.func48, Tryz.ntmps48
  go_wp2
  clear hmk
  go_loopw [4] (fun i wr => ∃ k : Nat, k ≤ p.length ∧ i = .int .i64 k ∧ Slots wr w.heap.size (p.length * 3) ∧ (Below w.heap.size w wr ∧ Thaw w.heap.size wr) ∧
      ∀ j (h : j < p.length), j < k → ∃ x, wr.cell? ⟨w.heap.size, j * 3, none⟩ = some (.int .i64 p[j].args) ∧ wr.cell? ⟨w.heap.size, j * 3 + 1, none⟩ = some (.int .i64 p[j].locals) ∧ wr.cell? ⟨w.heap.size, j * 3 + 2, none⟩ = some x ∧ InsRow (w.heap.size + 1) wr x p[j].code)
    (fun i _ => p.length - (intOf i).toNat)
  case atStart =>
    refine ⟨0, Nat.zero_le _, rfl, ?_, ⟨(Below.refl _ _).alloc (Nat.le_refl _) _, (Thaw.fresh w).alloc _ _⟩, fun j _ h => by omega⟩
    have := slots_new w (madeCells #[Value.int .i64 0, Value.int .i64 0, Value.slice none 0 0] (p.length * 3)) 57
    rwa [size_madeCells] at this
  case round =>
    obtain ⟨k, hk, rfl, hs, ⟨hb, hth⟩, hcs⟩ := hrel
    have Hth : Hid (Thaw w.heap.size wr) := hth
    clear hth
    by_cases hkl : k < p.length
    · obtain ⟨A', cap', he, _, hc⟩ := Hr.out.below hb
      simp only [Value.slice.injEq] at he
      obtain ⟨rfl, _, rfl⟩ := he
      obtain ⟨b, off, x, rfl, _, hlt, c0, c1, c2, hx⟩ := hc k hkl
      have Hx : Hid (InsRow B wr x p[k].code) := hx
      have Hb : Hid (Below w.heap.size w wr) := hb
      have Hs : Hid (Slots wr w.heap.size (p.length * 3)) := hs
      have Hcs : Hid (∀ j (h : j < p.length), j < k → ∃ x, wr.cell? ⟨w.heap.size, j * 3, none⟩ = some (.int .i64 p[j].args) ∧ wr.cell? ⟨w.heap.size, j * 3 + 1, none⟩ = some (.int .i64 p[j].locals) ∧ wr.cell? ⟨w.heap.size, j * 3 + 2, none⟩ = some x ∧ InsRow (w.heap.size + 1) wr x p[j].code) := hcs
      clear hc hb hs hcs hx
      go_wp2_with fail
      refine (toFnT _ _ x p[k].code _ Hx.out (Nat.le_trans (code_le_bulk p k hkl) hn)).mono ?_
      rintro e w1 ⟨v1, rfl, hi1, hb1, ht1⟩
      have Ht1 : Hid (Thaw w.heap.size w1) := Hth.out.call hb1 ht1
      clear ht1
      have Hb1 : Hid (Below wr.heap.size wr w1) := hb1
      have Hs1 : Hid (Slots w1 w.heap.size (p.length * 3)) := Hs.out.below hb1
      have hw0 : w.heap.size < w1.heap.size := Hs1.out.1
      have Hi1 : Hid (InsRow (w.heap.size + 1) w1 v1 p[k].code) := hi1.lower Hs.out.1
      obtain ⟨A1, cap1, rfl⟩ := hi1.form
      obtain ⟨⟨z0, hz0⟩, f0⟩ := Hs1.out.2 (k * 3) (by omega)
      obtain ⟨⟨z1, hz1⟩, f1⟩ := Hs1.out.2 (k * 3 + 1) (by omega)
      obtain ⟨⟨z2, hz2⟩, f2⟩ := Hs1.out.2 (k * 3 + 2) (by omega)
      clear hb1 c0 c1 c2 hi1
      go_wp2_with fail
      go_roundw
      case rel =>
        refine ⟨k + 1, by omega, by go_num, ((Hs1.out.set _ _).set _ _).set _ _, ⟨(((Hb.out.trans (Hb1.out.mono Hb.out.size)).setCell (by simp) _).setCell (by simp) _).setCell (by simp) _, ((Ht1.out.set _ _).set _ _).set _ _⟩, ?_⟩
        intro j hj hjk
        by_cases he : j = k
        · subst he
          exact ⟨_, by rw [cell_set_far _ _ _ _ _ (by omega), cell_set_far _ _ _ _ _ (by omega), cell_set_at Hs1.out (by omega)], by rw [cell_set_far _ _ _ _ _ (by omega), cell_set_at (Hs1.out.set _ _) (by omega)], cell_set_at ((Hs1.out.set _ _).set _ _) (by omega) _,
            ((Hi1.out.set (by simp) _).set (by simp) _).set (by simp) _⟩
        · obtain ⟨x, h0, h1, h2, h3⟩ := Hcs.out j hj (by omega)
          refine ⟨x, ?_, ?_, ?_, (((h3.below Hb1.out).set (by simp) _).set (by simp) _).set (by simp) _⟩
          · rw [cell_set_far _ _ _ _ _ (by omega), cell_set_far _ _ _ _ _ (by omega), cell_set_far _ _ _ _ _ (by omega), Hb1.out.cell (by exact Hs.out.1)]; exact h0
          · rw [cell_set_far _ _ _ _ _ (by omega), cell_set_far _ _ _ _ _ (by omega), cell_set_far _ _ _ _ _ (by omega), Hb1.out.cell (by exact Hs.out.1)]; exact h1
          · rw [cell_set_far _ _ _ _ _ (by omega), cell_set_far _ _ _ _ _ (by omega), cell_set_far _ _ _ _ _ (by omega), Hb1.out.cell (by exact Hs.out.1)]; exact h2
      case measure => simp [intOf]; omega
    · go_wp2
      go_ret
      refine ⟨_, rfl, ⟨_, _, rfl, by omega, fun i hi => ?_⟩, hb, Hth.out, w.heap.size, Nat.le_refl _, _, rfl, hs.1, Nat.le_refl _, fun i hi => ?_⟩
      rotate_left
      · obtain ⟨x, h0, h1, h2, h3⟩ := hcs i hi (by omega)
        exact ⟨x, by rw [h0]; rfl, by rw [h1]; rfl, h2, CodeRow.of h3⟩
      obtain ⟨x, h0, h1, h2, h3⟩ := hcs i hi (by omega)
      exact ⟨w.heap.size, 0, x, rfl, Nat.le_refl _, hs.1, by simpa using h0, by simpa using h1, by simpa using h2, h3.lower (by omega)⟩

set_option maxHeartbeats 800000 in
theorem toPrgT {B : Nat} (v : Value) (p : List FnM) (w : World) (hr : FnRow B w v p) (hn : bulk p ≤ 1048576) :
    Calls Tryz.prog 16 #[.agg #[v]] w fun e w' => ∃ v', e = .returned (.agg #[v']) ∧ FnRow w.heap.size w' v' p ∧ Below w.heap.size w w' ∧ Thaw w.heap.size w' ∧ ∃ Bf, w.heap.size ≤ Bf ∧ MarkRow Bf w'.heap.size w' v' p := by
  have Hr : Hid (FnRow B w v p) := hr
  obtain ⟨A, cap, rfl, _, hc⟩ := hr
  clear hc
  go_enter Tryz.func16, Tryz.ntmps16
  go_wp2_with fail
  refine (toFnsT _ p _ (Hr.out.below ((((Below.refl _ _).alloc (Nat.le_refl _) _).alloc (by simp) _).alloc (by simp; omega) _)) hn).mono ?_
  rintro e w1 ⟨v', rfl, hi1, hb1, ht1, Bf, hBf, hMk⟩
  have Ht1 : Hid (Thaw w.heap.size w1) := ((((Thaw.fresh w).alloc _ _).alloc _ _).alloc _ _).call hb1 ht1
  clear ht1
  have hBf' : w.heap.size + 1 + 1 + 1 ≤ Bf := by simpa using hBf
  have HMk : Hid (MarkRow Bf w1.heap.size w1 v' p) := hMk
  clear hMk hBf
  have Hi : Hid (FnRow (w.heap.size + 1 + 1 + 1) w1 v' p) := hi1.lower (by simp)
  obtain ⟨A', cap', rfl⟩ := hi1.form
  obtain ⟨h1, h2, hz, hb⟩ := last_two hb1
  have Hb : Hid (Below w.heap.size w w1) := hb
  clear hb hb1 hi1
  obtain ⟨p0, q0⟩ := h1 0
  obtain ⟨r0, s0⟩ := h2 0
  simp at p0 r0
  clear h1 h2
  go_wp2_with fail
  refine bodyPost_ret (v := .agg #[.slice A' p.length cap']) (by simp [results, Tryz.results16, go_sem, p0]) rfl
    ⟨_, rfl, ((Hi.out.set (by simp) _).set (by simp) _).lower (by omega), (Hb.out.setCell (by simp; omega) _).setCell (by simp) _, (Ht1.out.set _ _).set _ _, Bf, by omega, ?mk⟩
  have := HMk.out.kept (w' := (w1.setCell ⟨w.heap.size + 1 + 1, 0, none⟩ (.slice A' p.length cap')).setCell ⟨w.heap.size + 1, 0, none⟩ (.slice A' p.length cap')) (by simp) (fun b hb _ => by rw [Below.heap_setCell _ _ _ _ (by show b ≠ w.heap.size + 1; omega), Below.heap_setCell _ _ _ _ (by show b ≠ w.heap.size + 1 + 1; omega)])
  simpa using this
end Go.Proofs.YtclcnillnfkjoaaGreatDoor

namespace Go.Proofs.YtclcnillnfkjoaaGreatDoor
open Go.RowKit

/-- nothing has changed but cells in the blocks from B on, ahead of U -/
structure Touched (B U : Nat) (w w' : World) : Prop where
  os : w'.os = w.os
  tape : w'.tape = w.tape
  output : w'.output = w.output
  size : w'.heap.size = w.heap.size
  block : ∀ b, b < B ∨ U ≤ b → w'.heap[b]? = w.heap[b]?
  there : ∀ b j, (w.cell? ⟨b, j, none⟩).isSome = true → (w'.cell? ⟨b, j, none⟩).isSome = true
  frozen : ∀ b j, w'.frozen? ⟨b, j, none⟩ = w.frozen? ⟨b, j, none⟩

theorem Touched.refl (B U : Nat) (w : World) : Touched B U w w := ⟨rfl, rfl, rfl, rfl, fun _ _ => rfl, fun _ _ h => h, fun _ _ => rfl⟩
theorem Touched.trans {B U : Nat} {a b c : World} (h : Touched B U a b) (k : Touched B U b c) : Touched B U a c :=
  ⟨k.os.trans h.os, k.tape.trans h.tape, k.output.trans h.output, k.size.trans h.size, fun i hi => (k.block i hi).trans (h.block i hi), fun i j hh => k.there i j (h.there i j hh), fun i j => (k.frozen i j).trans (h.frozen i j)⟩
theorem Touched.wider {B B' U : Nat} {a b : World} (h : Touched B U a b) (hB : B' ≤ B) : Touched B' U a b := ⟨h.os, h.tape, h.output, h.size, fun i hi => h.block i (by omega), h.there, h.frozen⟩
theorem Touched.set {B U : Nat} {w w' : World} (h : Touched B U w w') (b o : Nat) (u : Value) (h1 : B ≤ b) (h2 : b < U) : Touched B U w (w'.setCell ⟨b, o, none⟩ u) := by
  refine h.trans ⟨rfl, rfl, rfl, by simp, fun i hi => Below.heap_setCell _ _ _ _ (by show i ≠ b; omega), fun i j hh => ?_, fun i j => by simp⟩
  by_cases he : (⟨i, j, none⟩ : Addr) = ⟨b, o, none⟩
  · rw [he] at hh ⊢
    obtain ⟨v, hv⟩ := Option.isSome_iff_exists.1 hh
    rw [World.cell?_setCell_same _ _ _ hv]; rfl
  · rw [World.cell?_setCell_other _ _ _ _ (by intro e; exact he e.symm)]; exact hh

set_option maxHeartbeats 800000 in
theorem markIns {B U : Nat} (v : Value) (n k : Nat) (w : World) (hv : CodeRow B U w v n) (hf : ∀ b j, B ≤ b → b < U → w.frozen? ⟨b, j, none⟩ = false) (hU : U ≤ w.heap.size) (hn : n ≤ 1048576) (hk : k ≤ 1073741824) :
    Calls Tryz.prog 87 #[v, .int .i64 k] w fun e w' => e = .returned (.int .i64 (k + 2 * n : Nat)) ∧ Touched B U w w' := by
  obtain ⟨A, cap, rfl, hc⟩ := hv
  have Hc : Hid (∀ i, i < n → ∃ b off, A = some ⟨b, off, none⟩ ∧ B ≤ b ∧ b < U ∧ (w.cell? ⟨b, off + i * 2, none⟩).isSome = true ∧ (w.cell? ⟨b, off + i * 2 + 1, none⟩).isSome = true) := hc
  have Hf : Hid (∀ b j, B ≤ b → b < U → w.frozen? ⟨b, j, none⟩ = false) := hf
  clear hc hf
  go_enter Tryz.func87, Tryz.ntmps87
  go_wp2
  go_loopg [1, 5] n (fun g y i wr => ∃ q : Nat, q ≤ n ∧ i = .int .i64 q ∧ y = .int .i64 (k + 2 * q : Nat) ∧ n ≤ q + g ∧ Touched B U w wr)
  case atStart => exact ⟨0, Nat.zero_le _, rfl, by simp, by omega, Touched.refl _ _ _⟩
  case round =>
    obtain ⟨q, hq, rfl, rfl, hqg, hT⟩ := hrel
    have HT : Hid (Touched B U w wr) := hT
    clear hT
    by_cases hql : q < n
    · obtain ⟨b, off, rfl, h1, h2, a0, a1⟩ := Hc.out q hql
      obtain ⟨z0, hz0⟩ := Option.isSome_iff_exists.1 (HT.out.there _ _ a0)
      obtain ⟨z1, hz1⟩ := Option.isSome_iff_exists.1 (HT.out.there _ _ a1)
      have f0 : wr.frozen? ⟨b, off + q * 2, none⟩ = false := by rw [HT.out.frozen]; exact Hf.out _ _ h1 h2
      have f1 : wr.frozen? ⟨b, off + q * 2 + 1, none⟩ = false := by rw [HT.out.frozen]; exact Hf.out _ _ h1 h2
      have hbz : b < wr.heap.size := by rw [HT.out.size]; omega
      clear a0 a1
      go_wp2_with fail
      go_roundg (gk - 1)
      case measure => omega
      case rel => exact ⟨q + 1, by omega, by go_num, by go_num, by omega, (HT.out.set _ _ _ h1 h2).set _ _ _ h1 h2⟩
    · have hqn : q = n := by omega
      subst hqn
      go_wp2_with fail
      go_ret
      exact ⟨rfl, HT.out⟩

theorem set_two (w : World) (b : Nat) (u u' : Value) (i j : Nat) (h1 : j ≠ i) (h2 : j ≠ i + 1) : ((w.setCell ⟨b, i, none⟩ u).setCell ⟨b, i + 1, none⟩ u').cell? ⟨b, j, none⟩ = w.cell? ⟨b, j, none⟩ := by
  rw [cell_set_far _ _ _ _ _ (by omega), cell_set_far _ _ _ _ _ (by omega)]

set_option maxHeartbeats 1600000 in
theorem markFns {Bf U : Nat} (v : Value) (p : List FnM) (k : Nat) (w : World) (hv : MarkRow Bf U w v p) (hf : ∀ b j, Bf ≤ b → b < U → w.frozen? ⟨b, j, none⟩ = false) (hn : bulk p ≤ 1048576) (hk : k ≤ 1048576) :
    Calls Tryz.prog 56 #[v, .int .i64 k] w fun e w' => ∃ m : Nat, e = .returned (.int .i64 m) ∧ m ≤ 4194304 ∧ Touched Bf U w w' := by
  obtain ⟨cap, rfl, hBU, hU, hc⟩ := hv
  have Hc : Hid (∀ i (h : i < p.length), ∃ x, (w.cell? ⟨Bf, i * 3, none⟩).isSome = true ∧ (w.cell? ⟨Bf, i * 3 + 1, none⟩).isSome = true ∧ w.cell? ⟨Bf, i * 3 + 2, none⟩ = some x ∧ CodeRow (Bf + 1) U w x p[i].code.length) := hc
  have Hf : Hid (∀ b j, Bf ≤ b → b < U → w.frozen? ⟨b, j, none⟩ = false) := hf
  have hpl : p.length + (p.map fun f => f.code.length).sum ≤ 1048576 := hn
  clear hc hf
  go_enter Tryz.func56, Tryz.ntmps56
  go_wp2
  go_loopg [1, 5] (p.length) (fun g y i wr => ∃ q m : Nat, q ≤ p.length ∧ i = .int .i64 q ∧ y = .int .i64 m ∧ m = k + 2 * q + 2 * ((p.take q).map fun f => f.code.length).sum ∧ p.length ≤ q + g ∧ Touched Bf U w wr ∧ ∀ j, wr.cell? ⟨Bf, j * 3 + 2, none⟩ = w.cell? ⟨Bf, j * 3 + 2, none⟩)
  case atStart => exact ⟨0, k, Nat.zero_le _, rfl, rfl, by simp, by omega, Touched.refl _ _ _, fun _ => rfl⟩
  case round =>
    obtain ⟨q, m, hq, rfl, rfl, hm, hqg, hT, hkeep⟩ := hrel
    have HT : Hid (Touched Bf U w wr) := hT
    have Hkeep : Hid (∀ j, wr.cell? ⟨Bf, j * 3 + 2, none⟩ = w.cell? ⟨Bf, j * 3 + 2, none⟩) := hkeep
    have hle := sum_take_le p q
    have hmb : m ≤ 4194304 := by omega
    have Hm : Hid (m = k + 2 * q + 2 * ((p.take q).map fun f => f.code.length).sum) := hm
    clear hT hkeep hle hm
    by_cases hql : q < p.length
    · obtain ⟨x, a0, a1, a2, hx⟩ := Hc.out q hql
      obtain ⟨z0, hz0⟩ := Option.isSome_iff_exists.1 (HT.out.there _ _ a0)
      obtain ⟨z1, hz1⟩ := Option.isSome_iff_exists.1 (HT.out.there _ _ a1)
      rw [← Hkeep.out q] at a2
      have f0 : wr.frozen? ⟨Bf, q * 3, none⟩ = false := by rw [HT.out.frozen]; exact Hf.out _ _ (Nat.le_refl _) hBU
      have f1 : wr.frozen? ⟨Bf, q * 3 + 1, none⟩ = false := by rw [HT.out.frozen]; exact Hf.out _ _ (Nat.le_refl _) hBU
      have hbz : Bf < wr.heap.size := by rw [HT.out.size]; omega
      have hcode : p[q].code.length ≤ 1048576 := Nat.le_trans (code_le_bulk p q hql) hn
      have Hx : Hid (CodeRow (Bf + 1) U w x p[q].code.length) := hx
      obtain ⟨Ax, capx, hxe, _⟩ := hx
      subst hxe
      have HT2 : Hid (Touched Bf U w ((wr.setCell ⟨Bf, q * 3, none⟩ (.int .i64 m)).setCell ⟨Bf, q * 3 + 1, none⟩ (.int .i64 ((m : Int) + 1)))) := (HT.out.set _ _ _ (Nat.le_refl _) hBU).set _ _ _ (Nat.le_refl _) hBU
      clear a0 a1
      go_wp2_with fail
      rw [show ((m : Int) + 1 + 1) = ((m + 2 : Nat) : Int) by omega]
      refine (markIns (B := Bf + 1) (U := U) _ p[q].code.length (m + 2) _ (Hx.out.kept fun b j _ _ h => HT2.out.there b j h) (fun b j h1 h2 => by rw [HT2.out.frozen]; exact Hf.out b j (by omega) h2) (by rw [HT2.out.size]; exact hU) hcode (by omega)).mono ?_
      rintro e w2 ⟨rfl, hT3⟩
      have HT4 : Hid (Touched Bf U w w2) := HT2.out.trans (hT3.wider (by omega))
      have Hk4 : Hid (∀ j, w2.cell? ⟨Bf, j * 3 + 2, none⟩ = w.cell? ⟨Bf, j * 3 + 2, none⟩) := fun j => by
        rw [World.cell?_of_block (w := (wr.setCell ⟨Bf, q * 3, none⟩ (.int .i64 m)).setCell ⟨Bf, q * 3 + 1, none⟩ (.int .i64 ((m : Int) + 1))) (hT3.block Bf (.inl (by omega))), set_two _ _ _ _ _ _ (by omega) (by omega), Hkeep.out j]
      have Hm4 : Hid (m + 2 + 2 * p[q].code.length = k + 2 * (q + 1) + 2 * ((p.take (q + 1)).map fun f => f.code.length).sum) := by
        show m + 2 + 2 * p[q].code.length = _
        rw [sum_take_succ p q hql, Hm.out]
        omega
      clear hT3 HT2 hz0 hz1 f0 f1 a2
      go_wp2_with fail
      go_roundg (gk - 1)
      case measure => omega
      case rel => exact ⟨q + 1, m + 2 + 2 * p[q].code.length, by omega, by go_num, rfl, Hm4.out, by omega, HT4.out, Hk4.out⟩
    · have hqn : q = p.length := by omega
      go_wp2_with fail
      go_ret
      exact ⟨m, rfl, by omega, HT.out⟩

set_option maxHeartbeats 800000 in
theorem markPrg {Bf U : Nat} (v : Value) (p : List FnM) (k : Nat) (w : World) (hv : MarkRow Bf U w v p) (hf : ∀ b j, Bf ≤ b → b < U → w.frozen? ⟨b, j, none⟩ = false) (hn : bulk p ≤ 1048576) (hk : k ≤ 1048576) :
    Calls Tryz.prog 21 #[.agg #[v], .int .i64 k] w fun e w' => ∃ m : Nat, e = .returned (.int .i64 m) ∧ m ≤ 4194304 ∧ w.heap.size ≤ w'.heap.size ∧ (w'.os = w.os ∧ w'.tape = w.tape ∧ w'.output = w.output) ∧ ∀ b, b < w.heap.size → (b < Bf ∨ U ≤ b) → w'.heap[b]? = w.heap[b]? := by
  have Hv : Hid (MarkRow Bf U w v p) := hv
  have Hf : Hid (∀ b j, Bf ≤ b → b < U → w.frozen? ⟨b, j, none⟩ = false) := hf
  obtain ⟨cap, rfl, hBU, hU, _⟩ := hv
  clear hf
  have hb : Below w.heap.size w (w.alloc (.cells #[.slice (some ⟨Bf, 0, none⟩) p.length cap] 25)) := (Below.refl _ _).alloc (Nat.le_refl _) _
  have Hb : Hid (Below w.heap.size w (w.alloc (.cells #[.slice (some ⟨Bf, 0, none⟩) p.length cap] 25))) := hb
  clear hb
  go_enter Tryz.func21, Tryz.ntmps21
  go_wp2_with fail
  refine (markFns _ p k _ (Hv.out.below Hb.out) (fun b j h1 h2 => by rw [Hb.out.frozen (by show b < w.heap.size; omega)]; exact Hf.out b j h1 h2) hn hk).mono ?_
  rintro e w2 ⟨m, rfl, hm, hT⟩
  have HF : Hid (w.heap.size ≤ w2.heap.size ∧ (w2.os = w.os ∧ w2.tape = w.tape ∧ w2.output = w.output) ∧ ∀ b, b < w.heap.size → (b < Bf ∨ U ≤ b) → w2.heap[b]? = w.heap[b]?) :=
    ⟨by rw [hT.size]; simp, ⟨hT.os.trans Hb.out.os, hT.tape.trans Hb.out.tape, hT.output.trans Hb.out.output⟩, fun b hb h => (hT.block b h).trans (Hb.out.block b hb)⟩
  clear hT
  go_wp2_with fail
  go_ret
  exact ⟨m, rfl, hm, HF.out⟩
end Go.Proofs.YtclcnillnfkjoaaGreatDoor

namespace Go.Proofs.YtclcnillnfkjoaaGreatDoor
open Go.RowKit

/-- a profile of marks: k, k + 1, .. -/
def smarks (n k : Nat) : List SnM := (List.range n).map fun (j : Nat) => ⟨((k + 4 * j : Nat) : Int), ((k + 4 * j + 1 : Nat) : Int), ((k + 4 * j + 2 : Nat) : Int), ((k + 4 * j + 3 : Nat) : Int)⟩
theorem smarks_length (n k : Nat) : (smarks n k).length = n := by simp [smarks]
theorem smarks_get (n k j : Nat) (h : j < (smarks n k).length) : (smarks n k)[j] = ⟨((k + 4 * j : Nat) : Int), ((k + 4 * j + 1 : Nat) : Int), ((k + 4 * j + 2 : Nat) : Int), ((k + 4 * j + 3 : Nat) : Int)⟩ := by simp [smarks]

/-- n places that may be written, in blocks from B on and ahead of U -/
def SnSpots (B U : Nat) (w : World) (v : Value) (n : Nat) : Prop := ∃ A cap, v = .slice A n cap ∧ ∀ i, i < n → ∃ b off, A = some ⟨b, off, none⟩ ∧ B ≤ b ∧ b < U ∧
  ∀ j, j < 4 → (w.cell? ⟨b, off + i * 4 + j, none⟩).isSome = true ∧ w.frozen? ⟨b, off + i * 4 + j, none⟩ = false

theorem SnSpots.below {B U : Nat} {w w' : World} {v : Value} {n : Nat} (h : SnSpots B U w v n) (hU : U ≤ w.heap.size) (hb : Below w.heap.size w w') : SnSpots B U w' v n := by
  obtain ⟨A, cap, rfl, hc⟩ := h
  refine ⟨A, cap, rfl, fun i hi => ?_⟩
  obtain ⟨b, off, rfl, h1, h2, h3⟩ := hc i hi
  have hl : b < w.heap.size := Nat.lt_of_lt_of_le h2 hU
  exact ⟨b, off, rfl, h1, h2, fun j hj => by rw [hb.cell (by exact hl), hb.frozen (by exact hl)]; exact h3 j hj⟩

/-- marks are written -/
theorem SnSpots.kept {B U : Nat} {w w' : World} {v : Value} {n : Nat} (h : SnSpots B U w v n) (hb : ∀ b, B ≤ b → b < U → w'.heap[b]? = w.heap[b]?) : SnSpots B U w' v n := by
  obtain ⟨A, cap, rfl, hc⟩ := h
  refine ⟨A, cap, rfl, fun i hi => ?_⟩
  obtain ⟨b, off, rfl, h1, h2, h3⟩ := hc i hi
  exact ⟨b, off, rfl, h1, h2, fun j hj => by rw [World.cell?_of_block (w := w) (hb b h1 h2), World.frozen?_of_block (w := w) (hb b h1 h2)]; exact h3 j hj⟩

set_option maxRecDepth 100000 in
set_option maxHeartbeats 1600000 in
theorem markSeen {B U : Nat} (v : Value) (n k : Nat) (w : World) (hv : SnSpots B U w v n) (hU : U ≤ w.heap.size) (hn : n ≤ 1048576) (hk : k ≤ 1073741824) :
    Calls Tryz.prog 22 #[v, .int .i64 k] w fun e w' => e = .returned (.int .i64 (k + 4 * n : Nat)) ∧ Touched B U w w' ∧ SnRow 0 w' v (smarks n k) := by
  obtain ⟨A, cap, rfl, hc⟩ := hv
  have Hc : Hid (∀ i, i < n → ∃ b off, A = some ⟨b, off, none⟩ ∧ B ≤ b ∧ b < U ∧ ∀ j, j < 4 → (w.cell? ⟨b, off + i * 4 + j, none⟩).isSome = true ∧ w.frozen? ⟨b, off + i * 4 + j, none⟩ = false) := hc
  clear hc
  go_enter Tryz.func22, Tryz.ntmps22
  go_wp2
  go_loopg [1, 5] n (fun g y i wr => ∃ q : Nat, q ≤ n ∧ i = .int .i64 q ∧ y = .int .i64 (k + 4 * q : Nat) ∧ n ≤ q + g ∧ Touched B U w wr ∧ ∀ j, j < q → ∃ b off, A = some ⟨b, off, none⟩ ∧ wr.cell? ⟨b, off + j * 4, none⟩ = some (.int .i64 (k + 4 * j : Nat)) ∧ wr.cell? ⟨b, off + j * 4 + 1, none⟩ = some (.int .i64 (k + 4 * j + 1 : Nat)) ∧ wr.cell? ⟨b, off + j * 4 + 2, none⟩ = some (.int .i64 (k + 4 * j + 2 : Nat)) ∧ wr.cell? ⟨b, off + j * 4 + 3, none⟩ = some (.int .i64 (k + 4 * j + 3 : Nat)))
  case atStart => exact ⟨0, Nat.zero_le _, rfl, by simp, by omega, Touched.refl _ _ _, fun j h => by omega⟩
  case round =>
    obtain ⟨q, hq, rfl, rfl, hqg, hT, hs⟩ := hrel
    have HT : Hid (Touched B U w wr) := hT
    have Hs : Hid (∀ j, j < q → ∃ b off, A = some ⟨b, off, none⟩ ∧ wr.cell? ⟨b, off + j * 4, none⟩ = some (.int .i64 (k + 4 * j : Nat)) ∧ wr.cell? ⟨b, off + j * 4 + 1, none⟩ = some (.int .i64 (k + 4 * j + 1 : Nat)) ∧ wr.cell? ⟨b, off + j * 4 + 2, none⟩ = some (.int .i64 (k + 4 * j + 2 : Nat)) ∧ wr.cell? ⟨b, off + j * 4 + 3, none⟩ = some (.int .i64 (k + 4 * j + 3 : Nat))) := hs
    clear hT hs
    by_cases hql : q < n
    · obtain ⟨b, off, rfl, h1, h2, hj⟩ := Hc.out q hql
      obtain ⟨z0, hz0⟩ := Option.isSome_iff_exists.1 (HT.out.there _ _ (hj 0 (by omega)).1)
      obtain ⟨z1, hz1⟩ := Option.isSome_iff_exists.1 (HT.out.there _ _ (hj 1 (by omega)).1)
      obtain ⟨z2, hz2⟩ := Option.isSome_iff_exists.1 (HT.out.there _ _ (hj 2 (by omega)).1)
      obtain ⟨z3, hz3⟩ := Option.isSome_iff_exists.1 (HT.out.there _ _ (hj 3 (by omega)).1)
      have f0 : wr.frozen? ⟨b, off + q * 4, none⟩ = false := by rw [HT.out.frozen]; exact (hj 0 (by omega)).2
      have f1 : wr.frozen? ⟨b, off + q * 4 + 1, none⟩ = false := by rw [HT.out.frozen]; exact (hj 1 (by omega)).2
      have f2 : wr.frozen? ⟨b, off + q * 4 + 2, none⟩ = false := by rw [HT.out.frozen]; exact (hj 2 (by omega)).2
      have f3 : wr.frozen? ⟨b, off + q * 4 + 3, none⟩ = false := by rw [HT.out.frozen]; exact (hj 3 (by omega)).2
      simp only [Nat.add_zero] at hz0
      have hbz : b < wr.heap.size := by rw [HT.out.size]; omega
      have HB : Hid (B ≤ b ∧ b < U) := ⟨h1, h2⟩
      clear hj h1 h2
      go_wp2_with fail
      go_roundg (gk - 1)
      case measure => omega
      case rel =>
        refine ⟨q + 1, by omega, by go_num, by go_num, by omega, (((HT.out.set _ _ _ HB.out.1 HB.out.2).set _ _ _ HB.out.1 HB.out.2).set _ _ _ HB.out.1 HB.out.2).set _ _ _ HB.out.1 HB.out.2, fun j hj => ⟨b, off, rfl, ?_⟩⟩
        by_cases he : j = q
        · subst he
          refine ⟨?_, ?_, ?_, ?_⟩
          · rw [cell_set_far _ _ _ _ _ (by omega), cell_set_far _ _ _ _ _ (by omega), cell_set_far _ _ _ _ _ (by omega), World.cell?_setCell_same _ _ _ hz0]; congr 2 <;> omega
          · rw [cell_set_far _ _ _ _ _ (by omega), cell_set_far _ _ _ _ _ (by omega), World.cell?_setCell_same _ _ _ (by rw [cell_set_far _ _ _ _ _ (by omega)]; exact hz1)]; congr 2 <;> omega
          · rw [cell_set_far _ _ _ _ _ (by omega), World.cell?_setCell_same _ _ _ (by rw [cell_set_far _ _ _ _ _ (by omega), cell_set_far _ _ _ _ _ (by omega)]; exact hz2)]; congr 2 <;> omega
          · rw [World.cell?_setCell_same _ _ _ (by rw [cell_set_far _ _ _ _ _ (by omega), cell_set_far _ _ _ _ _ (by omega), cell_set_far _ _ _ _ _ (by omega)]; exact hz3)]; congr 2 <;> omega
        · obtain ⟨b', off', e, k1, k2, k3, k4⟩ := Hs.out j (by omega)
          simp only [Option.some.injEq, Addr.mk.injEq, and_true] at e
          obtain ⟨rfl, rfl⟩ := e
          refine ⟨?_, ?_, ?_, ?_⟩ <;>
            rw [cell_set_far _ _ _ _ _ (by omega), cell_set_far _ _ _ _ _ (by omega), cell_set_far _ _ _ _ _ (by omega), cell_set_far _ _ _ _ _ (by omega)]
          · exact k1
          · exact k2
          · exact k3
          · exact k4
    · have hqn : q = n := by omega
      subst hqn
      go_wp2_with fail
      go_ret
      refine ⟨rfl, HT.out, ⟨A, cap, by rw [smarks_length], by rw [smarks_length]; omega, fun i hi => ?_⟩⟩
      rw [smarks_get]
      rw [smarks_length] at hi
      obtain ⟨b, off, rfl, h1⟩ := Hs.out i hi
      obtain ⟨b', off', e, _, h4, _⟩ := Hc.out i hi
      simp only [Option.some.injEq, Addr.mk.injEq, and_true] at e
      obtain ⟨rfl, rfl⟩ := e
      exact ⟨b, off, rfl, Nat.zero_le _, by rw [HT.out.size]; omega, h1⟩

set_option maxRecDepth 100000 in
set_option maxHeartbeats 1600000 in
theorem heldSeen {B : Nat} (v : Value) (n k : Nat) (w : World) (hn : n ≤ 1048576) (hk : k ≤ 1073741824) (hv : SnRow B w v (smarks n k)) :
    Calls Tryz.prog 23 #[v, .int .i64 k] w fun e w' => e = .returned (.int .i64 (k + 4 * n : Nat)) ∧ w' = w := by
  have Hv : Hid (SnRow B w v (smarks n k)) := hv
  obtain ⟨A, cap, rfl⟩ := hv.form
  clear hv
  have Hm := smarks_length n k
  rw [Hm] at Hv ⊢
  go_enter Tryz.func23, Tryz.ntmps23
  go_wp2
  go_loopg [1, 5] n (fun g y i wr => ∃ q : Nat, q ≤ n ∧ i = .int .i64 q ∧ y = .int .i64 (k + 4 * q : Nat) ∧ n ≤ q + g ∧ wr = w)
  case atStart => exact ⟨0, Nat.zero_le _, rfl, by simp, by omega, rfl⟩
  case round =>
    obtain ⟨q, hq, rfl, rfl, hqg, hw⟩ := hrel
    subst hw
    by_cases hql : q < n
    · obtain ⟨b, off, rfl, hlt, c0, c1, c2, c3⟩ := Hv.out.at q (by omega)
      rw [smarks_get] at c0 c1 c2 c3
      simp only at c0 c1 c2 c3
      go_wp2_with fail
      go_roundg (gk - 1)
      case measure => omega
      case rel => exact ⟨q + 1, by omega, by go_num, by go_num, by omega, rfl⟩
    · have hqn : q = n := by omega
      subst hqn
      go_wp2_with fail
      go_ret
      exact ⟨rfl, rfl⟩

set_option maxRecDepth 100000 in
set_option maxHeartbeats 1600000 in
/-- toSeenS, and where it lays -/
theorem toSeenT {B : Nat} (v : Value) (c : List SnM) (w : World) (hr : SnRow B w v c) (hn : c.length ≤ 1048576) :
    Calls Tryz.prog 17 #[v] w fun e w' => ∃ A cap, e = .returned (.slice A c.length cap) ∧ SnRow w.heap.size w' (.slice A c.length cap) c ∧ SnSpots w.heap.size (w.heap.size + 1) w' (.slice A c.length cap) c.length ∧ w.heap.size < w'.heap.size ∧ Below w.heap.size w w' := by
  obtain ⟨i0, hi, hz0, hz1, hz2⟩ := info_parts Tryz.infoSeen
  have hmk := fun (W : World) => run_makeSlice (P := Tryz.prog) W 40 83 i0 _ Tryz.underlying40 hi hz0 .i64 .i64 c.length c.length (by omega) (by omega) (by rw [hz1]; simp; omega) (by rw [hz2]; omega) (by omega)
  simp only [hz1, Int.toNat_natCast] at hmk
  have Hr : Hid (SnRow B w v c) := hr
  obtain ⟨A, cap, rfl, _, hc⟩ := hr
  clear hc
  go_enter Tryz.func17, Tryz.ntmps17
  go_wp2
  clear hmk
  go_loopw [4] (fun i wr => ∃ k : Nat, k ≤ c.length ∧ i = .int .i64 k ∧ Slots wr w.heap.size (c.length * 4) ∧ Below w.heap.size w wr ∧
      ∀ j (h : j < c.length), j < k → wr.cell? ⟨w.heap.size, j * 4, none⟩ = some (.int .i64 c[j].func) ∧ wr.cell? ⟨w.heap.size, j * 4 + 1, none⟩ = some (.int .i64 c[j].pc) ∧ wr.cell? ⟨w.heap.size, j * 4 + 2, none⟩ = some (.int .i64 c[j].went) ∧ wr.cell? ⟨w.heap.size, j * 4 + 3, none⟩ = some (.int .i64 c[j].past))
    (fun i _ => c.length - (intOf i).toNat)
  case atStart =>
    refine ⟨0, Nat.zero_le _, rfl, ?_, (Below.refl _ _).alloc (Nat.le_refl _) _, fun j _ h => by omega⟩
    have := slots_new w (madeCells #[Value.int .i64 0, Value.int .i64 0, Value.int .i64 0, Value.int .i64 0] (c.length * 4)) 83
    rwa [size_madeCells] at this
  case round =>
    obtain ⟨k, hk, rfl, hs, hb, hcs⟩ := hrel
    by_cases hkl : k < c.length
    · obtain ⟨A', cap', he, _, hc⟩ := Hr.out.below hb
      simp only [Value.slice.injEq] at he
      obtain ⟨rfl, _, rfl⟩ := he
      obtain ⟨b, off, rfl, _, hlt, c0, c1, c2, c3⟩ := hc k hkl
      have Hb : Hid (Below w.heap.size w wr) := hb
      have Hs : Hid (Slots wr w.heap.size (c.length * 4)) := hs
      have Hcs : Hid (∀ j (h : j < c.length), j < k → wr.cell? ⟨w.heap.size, j * 4, none⟩ = some (.int .i64 c[j].func) ∧ wr.cell? ⟨w.heap.size, j * 4 + 1, none⟩ = some (.int .i64 c[j].pc) ∧ wr.cell? ⟨w.heap.size, j * 4 + 2, none⟩ = some (.int .i64 c[j].went) ∧ wr.cell? ⟨w.heap.size, j * 4 + 3, none⟩ = some (.int .i64 c[j].past)) := hcs
      clear hc hb hs hcs
      go_wp2_with fail
      refine (toSeen _ _ _ _ _).mono ?_
      rintro e w1 ⟨rfl, hb1⟩
      have Hb1 : Hid (Below wr.heap.size wr w1) := hb1
      have Hs1 : Hid (Slots w1 w.heap.size (c.length * 4)) := Hs.out.below hb1
      have hw0 : w.heap.size < w1.heap.size := Hs1.out.1
      obtain ⟨⟨z0, hz0⟩, f0⟩ := Hs1.out.2 (k * 4) (by omega)
      obtain ⟨⟨z1, hz1⟩, f1⟩ := Hs1.out.2 (k * 4 + 1) (by omega)
      obtain ⟨⟨z2, hz2⟩, f2⟩ := Hs1.out.2 (k * 4 + 2) (by omega)
      obtain ⟨⟨z3, hz3⟩, f3⟩ := Hs1.out.2 (k * 4 + 3) (by omega)
      clear hb1 c0 c1 c2 c3
      go_wp2_with fail
      go_roundw
      case rel =>
        refine ⟨k + 1, by omega, by go_num, (((Hs1.out.set _ _).set _ _).set _ _).set _ _, ((((Hb.out.trans (Hb1.out.mono Hb.out.size)).setCell (by simp) _).setCell (by simp) _).setCell (by simp) _).setCell (by simp) _, ?_⟩
        intro j hj hjk
        by_cases he : j = k
        · subst he
          refine ⟨?_, ?_, ?_, ?_⟩
          · rw [cell_set_far _ _ _ _ _ (by omega), cell_set_far _ _ _ _ _ (by omega), cell_set_far _ _ _ _ _ (by omega), cell_set_at Hs1.out (by omega)]
          · rw [cell_set_far _ _ _ _ _ (by omega), cell_set_far _ _ _ _ _ (by omega), cell_set_at (Hs1.out.set _ _) (by omega)]
          · rw [cell_set_far _ _ _ _ _ (by omega), cell_set_at ((Hs1.out.set _ _).set _ _) (by omega)]
          · rw [cell_set_at (((Hs1.out.set _ _).set _ _).set _ _) (by omega)]
        · have h1 := Hcs.out j hj (by omega)
          refine ⟨?_, ?_, ?_, ?_⟩ <;>
            rw [cell_set_far _ _ _ _ _ (by omega), cell_set_far _ _ _ _ _ (by omega), cell_set_far _ _ _ _ _ (by omega), cell_set_far _ _ _ _ _ (by omega), Hb1.out.cell (by exact Hs.out.1)]
          · exact h1.1
          · exact h1.2.1
          · exact h1.2.2.1
          · exact h1.2.2.2
      case measure => simp [intOf]; omega
    · go_wp2
      go_ret
      refine ⟨_, _, rfl, ⟨_, _, rfl, by omega, fun i hi => ⟨w.heap.size, 0, rfl, Nat.le_refl _, hs.1, ?_⟩⟩, ⟨_, _, rfl, fun i hi => ⟨w.heap.size, 0, rfl, Nat.le_refl _, Nat.lt_succ_self _, fun j hj => ?_⟩⟩, hs.1, hb⟩
      · simpa using hcs i hi (by omega)
      · obtain ⟨⟨z, hz⟩, hf⟩ := hs.2 (i * 4 + j) (by omega)
        simp only [Nat.zero_add]
        exact ⟨by rw [hz]; rfl, hf⟩
end Go.Proofs.YtclcnillnfkjoaaGreatDoor
