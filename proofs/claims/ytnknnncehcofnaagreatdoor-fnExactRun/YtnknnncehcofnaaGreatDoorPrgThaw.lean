/- laws.toProgram and what it calls: what it makes reads as what it was given, in memory of its own that may be written. -/
import Derived.Test.YtnknnncehcofnaaGreatDoorJ1OpTab
namespace Go.Proofs.YtnknnncehcofnaaGreatDoor
open Go.RowKit

/-- no cell from block B on is frozen -/
def Thaw (B : Nat) (w : World) : Prop := ∀ b j, B ≤ b → w.frozen? ⟨b, j, none⟩ = false

theorem Thaw.fresh (w : World) : Thaw w.heap.size w := fun b j h => by
  have : w.heap[b]? = none := by simp; exact h
  simp [World.frozen?, this]
theorem Thaw.set {B : Nat} {w : World} (h : Thaw B w) (q : Addr) (u : Value) : Thaw B (w.setCell q u) := fun b j hb => by simpa using h b j hb
theorem Thaw.alloc {B : Nat} {w : World} (h : Thaw B w) (C : Array Value) (t : TypeId) : Thaw B (w.alloc (.cells C t)) := fun b j hb => by
  by_cases he : b = w.heap.size
  · subst he; exact World.frozen?_alloc_at _ _ _ _ rfl
  · by_cases hl : b < w.heap.size
    · rw [World.frozen?_alloc_past _ _ _ (by exact hl)]; exact h b j hb
    · have : (w.alloc (.cells C t)).heap[b]? = none := by simp; omega
      simp [World.frozen?, this]
/-- behind a call -/
theorem Thaw.call {B : Nat} {w w' : World} (h : Thaw B w) (hb : Below w.heap.size w w') (h' : Thaw w.heap.size w') : Thaw B w' := fun b j hB => by
  by_cases hl : b < w.heap.size
  · rw [hb.frozen (by exact hl)]; exact h b j hB
  · exact h' b j (by omega)
theorem Thaw.up {B B' : Nat} {w : World} (h : Thaw B w) (hB : B ≤ B') : Thaw B' w := fun b j hb => h b j (Nat.le_trans hB hb)
theorem Thaw.below {B : Nat} {w w' : World} (h : Thaw B w) (hb : Below w.heap.size w w') : ∀ b j, B ≤ b → b < w.heap.size → w'.frozen? ⟨b, j, none⟩ = false := fun b j h1 h2 => by rw [hb.frozen (by exact h2)]; exact h b j h1

/-- a slice of n instructions, its cells in blocks from B on, ahead of U -/
def CodeRow (B U : Nat) (w : World) (v : Value) (n : Nat) : Prop :=
  ∃ A cap, v = .slice A n cap ∧ ∀ i, i < n → ∃ b off, A = some ⟨b, off, none⟩ ∧ B ≤ b ∧ b < U ∧ (w.cell? ⟨b, off + i * 2, none⟩).isSome = true ∧ (w.cell? ⟨b, off + i * 2 + 1, none⟩).isSome = true

/-- a slice of functions that lies in block Bf, their code in blocks behind it -/
def MarkRow (Bf U : Nat) (w : World) (v : Value) (p : List FnM) : Prop :=
  ∃ cap, v = .slice (some ⟨Bf, 0, none⟩) p.length cap ∧ Bf < U ∧ U ≤ w.heap.size ∧ ∀ i (h : i < p.length), ∃ x, (w.cell? ⟨Bf, i * 3, none⟩).isSome = true ∧ (w.cell? ⟨Bf, i * 3 + 1, none⟩).isSome = true ∧ w.cell? ⟨Bf, i * 3 + 2, none⟩ = some x ∧ CodeRow (Bf + 1) U w x p[i].code.length

theorem CodeRow.of {B : Nat} {w : World} {v : Value} {c : List (Int × Int)} (h : InsRow B w v c) : CodeRow B w.heap.size w v c.length := by
  obtain ⟨A, cap, rfl, _, hc⟩ := h
  refine ⟨A, cap, rfl, fun i hi => ?_⟩
  obtain ⟨b, off, h1, h2, h3, h4, h5⟩ := hc i hi
  exact ⟨b, off, h1, h2, h3, by rw [h4]; rfl, by rw [h5]; rfl⟩

theorem CodeRow.kept {B U n : Nat} {w w' : World} {v : Value} (h : CodeRow B U w v n) (hc : ∀ b j, B ≤ b → b < U → (w.cell? ⟨b, j, none⟩).isSome = true → (w'.cell? ⟨b, j, none⟩).isSome = true) : CodeRow B U w' v n := by
  obtain ⟨A, cap, rfl, hh⟩ := h
  refine ⟨A, cap, rfl, fun i hi => ?_⟩
  obtain ⟨b, off, h1, h2, h3, h4, h5⟩ := hh i hi
  exact ⟨b, off, h1, h2, h3, hc _ _ h2 h3 h4, hc _ _ h2 h3 h5⟩

theorem MarkRow.kept {Bf U : Nat} {w w' : World} {v : Value} {p : List FnM} (h : MarkRow Bf U w v p) (hs : w.heap.size ≤ w'.heap.size) (hb : ∀ b, Bf ≤ b → b < U → w'.heap[b]? = w.heap[b]?) : MarkRow Bf U w' v p := by
  obtain ⟨cap, rfl, h1, h2, h3⟩ := h
  have hcell : ∀ b j, Bf ≤ b → b < U → w'.cell? ⟨b, j, none⟩ = w.cell? ⟨b, j, none⟩ := fun b j hB hU => World.cell?_of_block (w := w) (hb b hB hU)
  refine ⟨cap, rfl, h1, Nat.le_trans h2 hs, fun i hi => ?_⟩
  obtain ⟨x, a1, a2, a3, a4⟩ := h3 i hi
  exact ⟨x, by rw [hcell _ _ (Nat.le_refl _) h1]; exact a1, by rw [hcell _ _ (Nat.le_refl _) h1]; exact a2, by rw [hcell _ _ (Nat.le_refl _) h1]; exact a3, a4.kept fun b j hB hU h => by rw [hcell b j (by omega) hU]; exact h⟩

theorem MarkRow.below {Bf U : Nat} {w w' : World} {v : Value} {p : List FnM} (h : MarkRow Bf U w v p) (hb : Below w.heap.size w w') : MarkRow Bf U w' v p :=
  h.kept hb.size fun b _ hU => hb.block b (by obtain ⟨_, _, _, h2, _⟩ := h; omega)

theorem toInsT (x y : Int) (w : World) :
    Calls Tryz.prog 214 #[.agg #[.int .i64 x, .int .i64 y]] w fun e w' => e = .returned (.agg #[.int .i64 x, .int .i64 y]) ∧ Below w.heap.size w w' ∧ Thaw w.heap.size w' := by
  go_enter Tryz.func214, Tryz.ntmps214
  go_wp2
  exact bodyPost_ret (v := .agg #[.int .i64 x, .int .i64 y]) (by simp [results, Tryz.results214, go_sem]) rfl ⟨rfl, (((Below.refl _ _).alloc (Nat.le_refl _) _).alloc (by simp) _).alloc (by simp; omega) _, (((Thaw.fresh w).alloc _ _).alloc _ _).alloc _ _⟩

set_option maxRecDepth 100000 in
set_option maxHeartbeats 800000 in
theorem toInsST {B : Nat} (v : Value) (c : List (Int × Int)) (w : World) (hr : InsRow B w v c) (hn : c.length ≤ 1048576) :
    Calls Tryz.prog 174 #[v] w fun e w' => ∃ v', e = .returned v' ∧ InsRow w.heap.size w' v' c ∧ Below w.heap.size w w' ∧ Thaw w.heap.size w' := by
  obtain ⟨i0, hi, hz0, hz1, hz2⟩ := info_parts Tryz.infoIns
  have hmk := fun (W : World) => run_makeSlice (P := Tryz.prog) W 70 112 i0 _ Tryz.underlying70 hi hz0 .i64 .i64 c.length c.length (by omega) (by omega) (by rw [hz1]; simp; omega) (by rw [hz2]; omega) (by omega)
  simp only [hz1, Int.toNat_natCast] at hmk
  have Hr : Hid (InsRow B w v c) := hr
  obtain ⟨A, cap, rfl, _, hc⟩ := hr
  clear hc
  go_enter Tryz.func174, Tryz.ntmps174
  go_wp2
  clear hmk
  go_loopw [4] (fun i wr => ∃ k : Nat, k ≤ c.length ∧ i = .int .i64 k ∧ Slots wr w.heap.size (c.length * 2) ∧ (Below w.heap.size w wr ∧ Thaw w.heap.size wr) ∧
      ∀ j (h : j < c.length), j < k → wr.cell? ⟨w.heap.size, j * 2, none⟩ = some (.int .i64 c[j].1) ∧ wr.cell? ⟨w.heap.size, j * 2 + 1, none⟩ = some (.int .i64 c[j].2))
    (fun i _ => c.length - (intOf i).toNat)
  case atStart =>
    refine ⟨0, Nat.zero_le _, rfl, ?_, ⟨(Below.refl _ _).alloc (Nat.le_refl _) _, (Thaw.fresh w).alloc _ _⟩, fun j _ h => by omega⟩
    have := slots_new w (madeCells #[Value.int .i64 0, Value.int .i64 0] (c.length * 2)) 112
    rwa [size_madeCells] at this
  case round =>
    obtain ⟨k, hk, rfl, hs, ⟨hb, hth⟩, hcs⟩ := hrel
    have Hth : Hid (Thaw w.heap.size wr) := hth
    clear hth
    by_cases hkl : k < c.length
    · obtain ⟨A', cap', he, _, hc⟩ := Hr.out.below hb
      simp only [Value.slice.injEq] at he
      obtain ⟨rfl, _, rfl⟩ := he
      obtain ⟨b, off, rfl, _, hlt, c0, c1⟩ := hc k hkl
      have Hb : Hid (Below w.heap.size w wr) := hb
      have Hs : Hid (Slots wr w.heap.size (c.length * 2)) := hs
      have Hcs : Hid (∀ j (h : j < c.length), j < k → wr.cell? ⟨w.heap.size, j * 2, none⟩ = some (.int .i64 c[j].1) ∧ wr.cell? ⟨w.heap.size, j * 2 + 1, none⟩ = some (.int .i64 c[j].2)) := hcs
      clear hc hb hs hcs
      go_wp2_with fail
      refine (toInsT _ _ _).mono ?_
      rintro e w1 ⟨rfl, hb1, ht1⟩
      have Ht1 : Hid (Thaw w.heap.size w1) := Hth.out.call hb1 ht1
      clear ht1
      have Hb1 : Hid (Below wr.heap.size wr w1) := hb1
      have Hs1 : Hid (Slots w1 w.heap.size (c.length * 2)) := Hs.out.below hb1
      have hw0 : w.heap.size < w1.heap.size := Hs1.out.1
      obtain ⟨⟨z0, hz0⟩, f0⟩ := Hs1.out.2 (k * 2) (by omega)
      obtain ⟨⟨z1, hz1⟩, f1⟩ := Hs1.out.2 (k * 2 + 1) (by omega)
      clear hb1 c0 c1
      go_wp2_with fail
      go_roundw
      case rel =>
        refine ⟨k + 1, by omega, by go_num, (Hs1.out.set _ _).set _ _, ⟨((Hb.out.trans (Hb1.out.mono Hb.out.size)).setCell (by simp) _).setCell (by simp) _, (Ht1.out.set _ _).set _ _⟩, ?_⟩
        intro j hj hjk
        by_cases he : j = k
        · subst he
          exact ⟨by rw [cell_set_far _ _ _ _ _ (by omega), cell_set_at Hs1.out (by omega)], by rw [cell_set_at (Hs1.out.set _ _) (by omega)]⟩
        · have h1 := Hcs.out j hj (by omega)
          exact ⟨by rw [cell_set_far _ _ _ _ _ (by omega), cell_set_far _ _ _ _ _ (by omega), Hb1.out.cell (by exact Hs.out.1)]; exact h1.1, by rw [cell_set_far _ _ _ _ _ (by omega), cell_set_far _ _ _ _ _ (by omega), Hb1.out.cell (by exact Hs.out.1)]; exact h1.2⟩
      case measure => simp [intOf]; omega
    · go_wp2
      go_ret
      refine ⟨_, rfl, ⟨_, _, rfl, by omega, fun i hi => ⟨w.heap.size, 0, rfl, Nat.le_refl _, hs.1, ?_⟩⟩, hb, Hth.out⟩
      simpa using hcs i hi (by omega)

set_option maxHeartbeats 800000 in
theorem toFnT {B : Nat} (x y : Int) (v : Value) (c : List (Int × Int)) (w : World) (hr : InsRow B w v c) (hn : c.length ≤ 1048576) :
    Calls Tryz.prog 114 #[.agg #[.int .i64 x, .int .i64 y, v]] w fun e w' => ∃ v', e = .returned (.agg #[.int .i64 x, .int .i64 y, v']) ∧ InsRow w.heap.size w' v' c ∧ Below w.heap.size w w' ∧ Thaw w.heap.size w' := by
  have Hr : Hid (InsRow B w v c) := hr
  obtain ⟨A, cap, rfl, _, hc⟩ := hr
  clear hc
  go_enter Tryz.func114, Tryz.ntmps114
  go_wp2_with fail
  refine (toInsST _ c _ (Hr.out.below ((((Below.refl _ _).alloc (Nat.le_refl _) _).alloc (by simp) _).alloc (by simp; omega) _)) hn).mono ?_
  rintro e w1 ⟨v', rfl, hi1, hb1, ht1⟩
  have Ht1 : Hid (Thaw w.heap.size w1) := ((((Thaw.fresh w).alloc _ _).alloc _ _).alloc _ _).call hb1 ht1
  clear ht1
  have Hi : Hid (InsRow (w.heap.size + 1 + 1 + 1) w1 v' c) := hi1.lower (by simp)
  obtain ⟨A', cap', rfl⟩ := hi1.form
  obtain ⟨h1, h2, hz, hb⟩ := last_two hb1
  have Hb : Hid (Below w.heap.size w w1) := hb
  clear hb hb1 hi1
  obtain ⟨p0, q0⟩ := h1 0
  obtain ⟨p1, q1⟩ := h1 1
  obtain ⟨p2, q2⟩ := h1 2
  obtain ⟨r0, s0⟩ := h2 0
  obtain ⟨r1, s1⟩ := h2 1
  obtain ⟨r2, s2⟩ := h2 2
  simp at p0 p1 p2 r0 r1 r2
  clear h1 h2
  go_wp2_with fail
  exact bodyPost_ret (v := .agg #[.int .i64 x, .int .i64 y, .slice A' c.length cap']) (by simp [results, Tryz.results114, go_sem, p0, p1, p2]) rfl
    ⟨_, rfl, ((((Hi.out.set (by simp) _).set (by simp) _).set (by simp) _).set (by simp) _).lower (by omega), (((Hb.out.setCell (by simp; omega) _).setCell (by simp) _).setCell (by simp) _).setCell (by simp) _, (((Ht1.out.set _ _).set _ _).set _ _).set _ _⟩

set_option maxRecDepth 100000 in
set_option maxHeartbeats 800000 in
theorem toFnsT {B : Nat} (v : Value) (p : List FnM) (w : World) (hr : FnRow B w v p) (hn : bulk p ≤ 1048576) :
    Calls Tryz.prog 57 #[v] w fun e w' => ∃ v', e = .returned v' ∧ FnRow w.heap.size w' v' p ∧ Below w.heap.size w w' ∧ Thaw w.heap.size w' ∧ ∃ Bf, w.heap.size ≤ Bf ∧ MarkRow Bf w'.heap.size w' v' p := by
  have hl : p.length ≤ 1048576 := by unfold bulk at hn; omega
  obtain ⟨i0, hi, hz0, hz1, hz2⟩ := info_parts Tryz.infoFn
  have hmk := fun (W : World) => run_makeSlice (P := Tryz.prog) W 23 72 i0 _ Tryz.underlying23 hi hz0 .i64 .i64 p.length p.length (by omega) (by omega) (by rw [hz1]; simp; omega) (by rw [hz2]; omega) (by omega)
  simp only [hz1, Int.toNat_natCast] at hmk
  have Hr : Hid (FnRow B w v p) := hr
  obtain ⟨A, cap, rfl, _, hc⟩ := hr
  clear hc
  go_enter Tryz.func57, Tryz.ntmps57
  go_wp2
  clear hmk
  go_loopw [4] (fun i wr => ∃ k : Nat, k ≤ p.length ∧ i = .int .i64 k ∧ Slots wr w.heap.size (p.length * 3) ∧ (Below w.heap.size w wr ∧ Thaw w.heap.size wr) ∧
      ∀ j (h : j < p.length), j < k → ∃ x, wr.cell? ⟨w.heap.size, j * 3, none⟩ = some (.int .i64 p[j].args) ∧ wr.cell? ⟨w.heap.size, j * 3 + 1, none⟩ = some (.int .i64 p[j].locals) ∧ wr.cell? ⟨w.heap.size, j * 3 + 2, none⟩ = some x ∧ InsRow (w.heap.size + 1) wr x p[j].code)
    (fun i _ => p.length - (intOf i).toNat)
  case atStart =>
    refine ⟨0, Nat.zero_le _, rfl, ?_, ⟨(Below.refl _ _).alloc (Nat.le_refl _) _, (Thaw.fresh w).alloc _ _⟩, fun j _ h => by omega⟩
    have := slots_new w (madeCells #[Value.int .i64 0, Value.int .i64 0, Value.slice none 0 0] (p.length * 3)) 72
    rwa [size_madeCells] at this
  case round =>
    obtain ⟨k, hk, rfl, hs, ⟨hb, hth⟩, hcs⟩ := hrel
    have Hth : Hid (Thaw w.heap.size wr) := hth
    clear hth
    by_cases hkl : k < p.length
    · obtain ⟨A', cap', he, _, hc⟩ := Hr.out.below hb
      simp only [Value.slice.injEq] at he
      obtain ⟨rfl, _, rfl⟩ := he
      obtain ⟨b, off, x, rfl, _, hlt, c0, c1, c2, hx⟩ := hc k hkl
      have Hx : Hid (InsRow B wr x p[k].code) := hx
      have Hb : Hid (Below w.heap.size w wr) := hb
      have Hs : Hid (Slots wr w.heap.size (p.length * 3)) := hs
      have Hcs : Hid (∀ j (h : j < p.length), j < k → ∃ x, wr.cell? ⟨w.heap.size, j * 3, none⟩ = some (.int .i64 p[j].args) ∧ wr.cell? ⟨w.heap.size, j * 3 + 1, none⟩ = some (.int .i64 p[j].locals) ∧ wr.cell? ⟨w.heap.size, j * 3 + 2, none⟩ = some x ∧ InsRow (w.heap.size + 1) wr x p[j].code) := hcs
      clear hc hb hs hcs hx
      go_wp2_with fail
      refine (toFnT _ _ x p[k].code _ Hx.out (Nat.le_trans (code_le_bulk p k hkl) hn)).mono ?_
      rintro e w1 ⟨v1, rfl, hi1, hb1, ht1⟩
      have Ht1 : Hid (Thaw w.heap.size w1) := Hth.out.call hb1 ht1
      clear ht1
      have Hb1 : Hid (Below wr.heap.size wr w1) := hb1
      have Hs1 : Hid (Slots w1 w.heap.size (p.length * 3)) := Hs.out.below hb1
      have hw0 : w.heap.size < w1.heap.size := Hs1.out.1
      have Hi1 : Hid (InsRow (w.heap.size + 1) w1 v1 p[k].code) := hi1.lower Hs.out.1
      obtain ⟨A1, cap1, rfl⟩ := hi1.form
      obtain ⟨⟨z0, hz0⟩, f0⟩ := Hs1.out.2 (k * 3) (by omega)
      obtain ⟨⟨z1, hz1⟩, f1⟩ := Hs1.out.2 (k * 3 + 1) (by omega)
      obtain ⟨⟨z2, hz2⟩, f2⟩ := Hs1.out.2 (k * 3 + 2) (by omega)
      clear hb1 c0 c1 c2 hi1
      go_wp2_with fail
      go_roundw
      case rel =>
        refine ⟨k + 1, by omega, by go_num, ((Hs1.out.set _ _).set _ _).set _ _, ⟨(((Hb.out.trans (Hb1.out.mono Hb.out.size)).setCell (by simp) _).setCell (by simp) _).setCell (by simp) _, ((Ht1.out.set _ _).set _ _).set _ _⟩, ?_⟩
        intro j hj hjk
        by_cases he : j = k
        · subst he
          exact ⟨_, by rw [cell_set_far _ _ _ _ _ (by omega), cell_set_far _ _ _ _ _ (by omega), cell_set_at Hs1.out (by omega)], by rw [cell_set_far _ _ _ _ _ (by omega), cell_set_at (Hs1.out.set _ _) (by omega)], cell_set_at ((Hs1.out.set _ _).set _ _) (by omega) _,
            ((Hi1.out.set (by simp) _).set (by simp) _).set (by simp) _⟩
        · obtain ⟨x, h0, h1, h2, h3⟩ := Hcs.out j hj (by omega)
          refine ⟨x, ?_, ?_, ?_, (((h3.below Hb1.out).set (by simp) _).set (by simp) _).set (by simp) _⟩
          · rw [cell_set_far _ _ _ _ _ (by omega), cell_set_far _ _ _ _ _ (by omega), cell_set_far _ _ _ _ _ (by omega), Hb1.out.cell (by exact Hs.out.1)]; exact h0
          · rw [cell_set_far _ _ _ _ _ (by omega), cell_set_far _ _ _ _ _ (by omega), cell_set_far _ _ _ _ _ (by omega), Hb1.out.cell (by exact Hs.out.1)]; exact h1
          · rw [cell_set_far _ _ _ _ _ (by omega), cell_set_far _ _ _ _ _ (by omega), cell_set_far _ _ _ _ _ (by omega), Hb1.out.cell (by exact Hs.out.1)]; exact h2
      case measure => simp [intOf]; omega
    · go_wp2
      go_ret
      refine ⟨_, rfl, ⟨_, _, rfl, by omega, fun i hi => ?_⟩, hb, Hth.out, w.heap.size, Nat.le_refl _, _, rfl, hs.1, Nat.le_refl _, fun i hi => ?_⟩
      rotate_left
      · obtain ⟨x, h0, h1, h2, h3⟩ := hcs i hi (by omega)
        exact ⟨x, by rw [h0]; rfl, by rw [h1]; rfl, h2, CodeRow.of h3⟩
      obtain ⟨x, h0, h1, h2, h3⟩ := hcs i hi (by omega)
      exact ⟨w.heap.size, 0, x, rfl, Nat.le_refl _, hs.1, by simpa using h0, by simpa using h1, by simpa using h2, h3.lower (by omega)⟩

set_option maxHeartbeats 800000 in
theorem toPrgT {B : Nat} (v : Value) (p : List FnM) (w : World) (hr : FnRow B w v p) (hn : bulk p ≤ 1048576) :
    Calls Tryz.prog 16 #[.agg #[v]] w fun e w' => ∃ v', e = .returned (.agg #[v']) ∧ FnRow w.heap.size w' v' p ∧ Below w.heap.size w w' ∧ Thaw w.heap.size w' ∧ ∃ Bf, w.heap.size ≤ Bf ∧ MarkRow Bf w'.heap.size w' v' p := by
  have Hr : Hid (FnRow B w v p) := hr
  obtain ⟨A, cap, rfl, _, hc⟩ := hr
  clear hc
  go_enter Tryz.func16, Tryz.ntmps16
  go_wp2_with fail
  refine (toFnsT _ p _ (Hr.out.below ((((Below.refl _ _).alloc (Nat.le_refl _) _).alloc (by simp) _).alloc (by simp; omega) _)) hn).mono ?_
  rintro e w1 ⟨v', rfl, hi1, hb1, ht1, Bf, hBf, hMk⟩
  have Ht1 : Hid (Thaw w.heap.size w1) := ((((Thaw.fresh w).alloc _ _).alloc _ _).alloc _ _).call hb1 ht1
  clear ht1
  have hBf' : w.heap.size + 1 + 1 + 1 ≤ Bf := by simpa using hBf
  have HMk : Hid (MarkRow Bf w1.heap.size w1 v' p) := hMk
  clear hMk hBf
  have Hi : Hid (FnRow (w.heap.size + 1 + 1 + 1) w1 v' p) := hi1.lower (by simp)
  obtain ⟨A', cap', rfl⟩ := hi1.form
  obtain ⟨h1, h2, hz, hb⟩ := last_two hb1
  have Hb : Hid (Below w.heap.size w w1) := hb
  clear hb hb1 hi1
  obtain ⟨p0, q0⟩ := h1 0
  obtain ⟨r0, s0⟩ := h2 0
  simp at p0 r0
  clear h1 h2
  go_wp2_with fail
  refine bodyPost_ret (v := .agg #[.slice A' p.length cap']) (by simp [results, Tryz.results16, go_sem, p0]) rfl
    ⟨_, rfl, ((Hi.out.set (by simp) _).set (by simp) _).lower (by omega), (Hb.out.setCell (by simp; omega) _).setCell (by simp) _, (Ht1.out.set _ _).set _ _, Bf, by omega, ?mk⟩
  have := HMk.out.kept (w' := (w1.setCell ⟨w.heap.size + 1 + 1, 0, none⟩ (.slice A' p.length cap')).setCell ⟨w.heap.size + 1, 0, none⟩ (.slice A' p.length cap')) (by simp) (fun b hb _ => by rw [Below.heap_setCell _ _ _ _ (by show b ≠ w.heap.size + 1; omega), Below.heap_setCell _ _ _ _ (by show b ≠ w.heap.size + 1 + 1; omega)])
  simpa using this
end Go.Proofs.YtnknnncehcofnaaGreatDoor
