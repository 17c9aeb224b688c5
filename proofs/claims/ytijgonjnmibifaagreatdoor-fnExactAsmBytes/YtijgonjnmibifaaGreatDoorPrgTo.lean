/- laws.toProgram and what it calls: what it makes reads as what it was given, in memory of its own. -/
import Derived.Test.YtijgonjnmibifaaGreatDoorPrg
namespace Go.Proofs.YtijgonjnmibifaaGreatDoor
open Go.RowKit

theorem toIns (x y : Int) (w : World) :
    Calls Tryz.prog 122 #[.agg #[.int .i64 x, .int .i64 y]] w fun e w' => e = .returned (.agg #[.int .i64 x, .int .i64 y]) ∧ Below w.heap.size w w' := by
  go_enter Tryz.func122, Tryz.ntmps122
  go_wp2
  exact bodyPost_ret (v := .agg #[.int .i64 x, .int .i64 y]) (by simp [results, Tryz.results122, go_sem]) rfl ⟨rfl, (((Below.refl _ _).alloc (Nat.le_refl _) _).alloc (by simp) _).alloc (by simp; omega) _⟩

theorem Tryz.infoIns : (Tryz.prog.info? 146).map (fun i => (i.zero, i.size, i.bytes)) = some (some (.agg #[.int .i64 0, .int .i64 0]), 2, 16) := by kernel_rfl
theorem Tryz.infoFn : (Tryz.prog.info? 105).map (fun i => (i.zero, i.size, i.bytes)) = some (some (.agg #[.int .i64 0, .int .i64 0, .slice none 0 0]), 3, 40) := by kernel_rfl

set_option maxRecDepth 100000 in
set_option maxHeartbeats 800000 in
theorem toInsS {B : Nat} (v : Value) (c : List (Int × Int)) (w : World) (hr : InsRow B w v c) (hn : c.length ≤ 1048576) :
    Calls Tryz.prog 89 #[v] w fun e w' => ∃ v', e = .returned v' ∧ InsRow w.heap.size w' v' c ∧ Below w.heap.size w w' := by
  obtain ⟨i0, hi, hz0, hz1, hz2⟩ := info_parts Tryz.infoIns
  have hmk := fun (W : World) => run_makeSlice (P := Tryz.prog) W 103 146 i0 _ Tryz.underlying103 hi hz0 .i64 .i64 c.length c.length (by omega) (by omega) (by rw [hz1]; simp; omega) (by rw [hz2]; omega) (by omega)
  simp only [hz1, Int.toNat_natCast] at hmk
  have Hr : Hid (InsRow B w v c) := hr
  obtain ⟨A, cap, rfl, _, hc⟩ := hr
  clear hc
  go_enter Tryz.func89, Tryz.ntmps89
  go_wp2
  clear hmk
  go_loopw [4] (fun i wr => ∃ k : Nat, k ≤ c.length ∧ i = .int .i64 k ∧ Slots wr w.heap.size (c.length * 2) ∧ Below w.heap.size w wr ∧
      ∀ j (h : j < c.length), j < k → wr.cell? ⟨w.heap.size, j * 2, none⟩ = some (.int .i64 c[j].1) ∧ wr.cell? ⟨w.heap.size, j * 2 + 1, none⟩ = some (.int .i64 c[j].2))
    (fun i _ => c.length - (intOf i).toNat)
  case atStart =>
    refine ⟨0, Nat.zero_le _, rfl, ?_, (Below.refl _ _).alloc (Nat.le_refl _) _, fun j _ h => by omega⟩
    have := slots_new w (madeCells #[Value.int .i64 0, Value.int .i64 0] (c.length * 2)) 146
    rwa [size_madeCells] at this
  case round =>
    obtain ⟨k, hk, rfl, hs, hb, hcs⟩ := hrel
    by_cases hkl : k < c.length
    · obtain ⟨A', cap', he, _, hc⟩ := Hr.out.below hb
      simp only [Value.slice.injEq] at he
      obtain ⟨rfl, _, rfl⟩ := he
      obtain ⟨b, off, rfl, _, hlt, c0, c1⟩ := hc k hkl
      have Hb : Hid (Below w.heap.size w wr) := hb
      have Hs : Hid (Slots wr w.heap.size (c.length * 2)) := hs
      have Hcs : Hid (∀ j (h : j < c.length), j < k → wr.cell? ⟨w.heap.size, j * 2, none⟩ = some (.int .i64 c[j].1) ∧ wr.cell? ⟨w.heap.size, j * 2 + 1, none⟩ = some (.int .i64 c[j].2)) := hcs
      clear hc hb hs hcs
      go_wp2_with fail
      refine (toIns _ _ _).mono ?_
      rintro e w1 ⟨rfl, hb1⟩
      have Hb1 : Hid (Below wr.heap.size wr w1) := hb1
      have Hs1 : Hid (Slots w1 w.heap.size (c.length * 2)) := Hs.out.below hb1
      have hw0 : w.heap.size < w1.heap.size := Hs1.out.1
      obtain ⟨⟨z0, hz0⟩, f0⟩ := Hs1.out.2 (k * 2) (by omega)
      obtain ⟨⟨z1, hz1⟩, f1⟩ := Hs1.out.2 (k * 2 + 1) (by omega)
      clear hb1 c0 c1
      go_wp2_with fail
      go_roundw
      case rel =>
        refine ⟨k + 1, by omega, by go_num, (Hs1.out.set _ _).set _ _, ((Hb.out.trans (Hb1.out.mono Hb.out.size)).setCell (by simp) _).setCell (by simp) _, ?_⟩
        intro j hj hjk
        by_cases he : j = k
        · subst he
          exact ⟨by rw [cell_set_far _ _ _ _ _ (by omega), cell_set_at Hs1.out (by omega)], by rw [cell_set_at (Hs1.out.set _ _) (by omega)]⟩
        · have h1 := Hcs.out j hj (by omega)
          exact ⟨by rw [cell_set_far _ _ _ _ _ (by omega), cell_set_far _ _ _ _ _ (by omega), Hb1.out.cell (by exact Hs.out.1)]; exact h1.1, by rw [cell_set_far _ _ _ _ _ (by omega), cell_set_far _ _ _ _ _ (by omega), Hb1.out.cell (by exact Hs.out.1)]; exact h1.2⟩
      case measure => simp [intOf]; omega
    · go_wp2
      go_ret
      refine ⟨_, rfl, ⟨_, _, rfl, by omega, fun i hi => ⟨w.heap.size, 0, rfl, Nat.le_refl _, hs.1, ?_⟩⟩, hb⟩
      simpa using hcs i hi (by omega)

set_option maxHeartbeats 800000 in
theorem toFn {B : Nat} (x y : Int) (v : Value) (c : List (Int × Int)) (w : World) (hr : InsRow B w v c) (hn : c.length ≤ 1048576) :
    Calls Tryz.prog 54 #[.agg #[.int .i64 x, .int .i64 y, v]] w fun e w' => ∃ v', e = .returned (.agg #[.int .i64 x, .int .i64 y, v']) ∧ InsRow w.heap.size w' v' c ∧ Below w.heap.size w w' := by
  have Hr : Hid (InsRow B w v c) := hr
  obtain ⟨A, cap, rfl, _, hc⟩ := hr
  clear hc
  go_enter Tryz.func54, Tryz.ntmps54
  go_wp2_with fail
  refine (toInsS _ c _ (Hr.out.below ((((Below.refl _ _).alloc (Nat.le_refl _) _).alloc (by simp) _).alloc (by simp; omega) _)) hn).mono ?_
  rintro e w1 ⟨v', rfl, hi1, hb1⟩
  have Hi : Hid (InsRow (w.heap.size + 1 + 1 + 1) w1 v' c) := hi1.lower (by simp)
  obtain ⟨A', cap', rfl⟩ := hi1.form
  obtain ⟨h1, h2, hz, hb⟩ := last_two hb1
  have Hb : Hid (Below w.heap.size w w1) := hb
  clear hb hb1 hi1
  obtain ⟨p0, q0⟩ := h1 0
  obtain ⟨p1, q1⟩ := h1 1
  obtain ⟨p2, q2⟩ := h1 2
  obtain ⟨r0, s0⟩ := h2 0
  obtain ⟨r1, s1⟩ := h2 1
  obtain ⟨r2, s2⟩ := h2 2
  simp at p0 p1 p2 r0 r1 r2
  clear h1 h2
  go_wp2_with fail
  exact bodyPost_ret (v := .agg #[.int .i64 x, .int .i64 y, .slice A' c.length cap']) (by simp [results, Tryz.results54, go_sem, p0, p1, p2]) rfl
    ⟨_, rfl, ((((Hi.out.set (by simp) _).set (by simp) _).set (by simp) _).set (by simp) _).lower (by omega), (((Hb.out.setCell (by simp; omega) _).setCell (by simp) _).setCell (by simp) _).setCell (by simp) _⟩

set_option maxRecDepth 100000 in
set_option maxHeartbeats 800000 in
theorem toFns {B : Nat} (v : Value) (p : List FnM) (w : World) (hr : FnRow B w v p) (hn : bulk p ≤ 1048576) :
    Calls Tryz.prog 25 #[v] w fun e w' => ∃ v', e = .returned v' ∧ FnRow w.heap.size w' v' p ∧ Below w.heap.size w w' := by
  have hl : p.length ≤ 1048576 := by unfold bulk at hn; omega
  obtain ⟨i0, hi, hz0, hz1, hz2⟩ := info_parts Tryz.infoFn
  have hmk := fun (W : World) => run_makeSlice (P := Tryz.prog) W 32 105 i0 _ Tryz.underlying32 hi hz0 .i64 .i64 p.length p.length (by omega) (by omega) (by rw [hz1]; simp; omega) (by rw [hz2]; omega) (by omega)
  simp only [hz1, Int.toNat_natCast] at hmk
  have Hr : Hid (FnRow B w v p) := hr
  obtain ⟨A, cap, rfl, _, hc⟩ := hr
  clear hc
  go_enter Tryz.func25, Tryz.ntmps25
  go_wp2
  clear hmk
  go_loopw [4] (fun i wr => ∃ k : Nat, k ≤ p.length ∧ i = .int .i64 k ∧ Slots wr w.heap.size (p.length * 3) ∧ Below w.heap.size w wr ∧
      ∀ j (h : j < p.length), j < k → ∃ x, wr.cell? ⟨w.heap.size, j * 3, none⟩ = some (.int .i64 p[j].args) ∧ wr.cell? ⟨w.heap.size, j * 3 + 1, none⟩ = some (.int .i64 p[j].locals) ∧ wr.cell? ⟨w.heap.size, j * 3 + 2, none⟩ = some x ∧ InsRow (w.heap.size + 1) wr x p[j].code)
    (fun i _ => p.length - (intOf i).toNat)
  case atStart =>
    refine ⟨0, Nat.zero_le _, rfl, ?_, (Below.refl _ _).alloc (Nat.le_refl _) _, fun j _ h => by omega⟩
    have := slots_new w (madeCells #[Value.int .i64 0, Value.int .i64 0, Value.slice none 0 0] (p.length * 3)) 105
    rwa [size_madeCells] at this
  case round =>
    obtain ⟨k, hk, rfl, hs, hb, hcs⟩ := hrel
    by_cases hkl : k < p.length
    · obtain ⟨A', cap', he, _, hc⟩ := Hr.out.below hb
      simp only [Value.slice.injEq] at he
      obtain ⟨rfl, _, rfl⟩ := he
      obtain ⟨b, off, x, rfl, _, hlt, c0, c1, c2, hx⟩ := hc k hkl
      have Hx : Hid (InsRow B wr x p[k].code) := hx
      have Hb : Hid (Below w.heap.size w wr) := hb
      have Hs : Hid (Slots wr w.heap.size (p.length * 3)) := hs
      have Hcs : Hid (∀ j (h : j < p.length), j < k → ∃ x, wr.cell? ⟨w.heap.size, j * 3, none⟩ = some (.int .i64 p[j].args) ∧ wr.cell? ⟨w.heap.size, j * 3 + 1, none⟩ = some (.int .i64 p[j].locals) ∧ wr.cell? ⟨w.heap.size, j * 3 + 2, none⟩ = some x ∧ InsRow (w.heap.size + 1) wr x p[j].code) := hcs
      clear hc hb hs hcs hx
      go_wp2_with fail
      refine (toFn _ _ x p[k].code _ Hx.out (Nat.le_trans (code_le_bulk p k hkl) hn)).mono ?_
      rintro e w1 ⟨v1, rfl, hi1, hb1⟩
      have Hb1 : Hid (Below wr.heap.size wr w1) := hb1
      have Hs1 : Hid (Slots w1 w.heap.size (p.length * 3)) := Hs.out.below hb1
      have hw0 : w.heap.size < w1.heap.size := Hs1.out.1
      have Hi1 : Hid (InsRow (w.heap.size + 1) w1 v1 p[k].code) := hi1.lower Hs.out.1
      obtain ⟨A1, cap1, rfl⟩ := hi1.form
      obtain ⟨⟨z0, hz0⟩, f0⟩ := Hs1.out.2 (k * 3) (by omega)
      obtain ⟨⟨z1, hz1⟩, f1⟩ := Hs1.out.2 (k * 3 + 1) (by omega)
      obtain ⟨⟨z2, hz2⟩, f2⟩ := Hs1.out.2 (k * 3 + 2) (by omega)
      clear hb1 c0 c1 c2 hi1
      go_wp2_with fail
      go_roundw
      case rel =>
        refine ⟨k + 1, by omega, by go_num, ((Hs1.out.set _ _).set _ _).set _ _, (((Hb.out.trans (Hb1.out.mono Hb.out.size)).setCell (by simp) _).setCell (by simp) _).setCell (by simp) _, ?_⟩
        intro j hj hjk
        by_cases he : j = k
        · subst he
          exact ⟨_, by rw [cell_set_far _ _ _ _ _ (by omega), cell_set_far _ _ _ _ _ (by omega), cell_set_at Hs1.out (by omega)], by rw [cell_set_far _ _ _ _ _ (by omega), cell_set_at (Hs1.out.set _ _) (by omega)], cell_set_at ((Hs1.out.set _ _).set _ _) (by omega) _,
            ((Hi1.out.set (by simp) _).set (by simp) _).set (by simp) _⟩
        · obtain ⟨x, h0, h1, h2, h3⟩ := Hcs.out j hj (by omega)
          refine ⟨x, ?_, ?_, ?_, (((h3.below Hb1.out).set (by simp) _).set (by simp) _).set (by simp) _⟩
          · rw [cell_set_far _ _ _ _ _ (by omega), cell_set_far _ _ _ _ _ (by omega), cell_set_far _ _ _ _ _ (by omega), Hb1.out.cell (by exact Hs.out.1)]; exact h0
          · rw [cell_set_far _ _ _ _ _ (by omega), cell_set_far _ _ _ _ _ (by omega), cell_set_far _ _ _ _ _ (by omega), Hb1.out.cell (by exact Hs.out.1)]; exact h1
          · rw [cell_set_far _ _ _ _ _ (by omega), cell_set_far _ _ _ _ _ (by omega), cell_set_far _ _ _ _ _ (by omega), Hb1.out.cell (by exact Hs.out.1)]; exact h2
      case measure => simp [intOf]; omega
    · go_wp2
      go_ret
      refine ⟨_, rfl, ⟨_, _, rfl, by omega, fun i hi => ?_⟩, hb⟩
      obtain ⟨x, h0, h1, h2, h3⟩ := hcs i hi (by omega)
      exact ⟨w.heap.size, 0, x, rfl, Nat.le_refl _, hs.1, by simpa using h0, by simpa using h1, by simpa using h2, h3.lower (by omega)⟩

set_option maxHeartbeats 800000 in
theorem toPrg {B : Nat} (v : Value) (p : List FnM) (w : World) (hr : FnRow B w v p) (hn : bulk p ≤ 1048576) :
    Calls Tryz.prog 8 #[.agg #[v]] w fun e w' => ∃ v', e = .returned (.agg #[v']) ∧ FnRow w.heap.size w' v' p ∧ Below w.heap.size w w' := by
  have Hr : Hid (FnRow B w v p) := hr
  obtain ⟨A, cap, rfl, _, hc⟩ := hr
  clear hc
  go_enter Tryz.func8, Tryz.ntmps8
  go_wp2_with fail
  refine (toFns _ p _ (Hr.out.below ((((Below.refl _ _).alloc (Nat.le_refl _) _).alloc (by simp) _).alloc (by simp; omega) _)) hn).mono ?_
  rintro e w1 ⟨v', rfl, hi1, hb1⟩
  have Hi : Hid (FnRow (w.heap.size + 1 + 1 + 1) w1 v' p) := hi1.lower (by simp)
  obtain ⟨A', cap', rfl⟩ := hi1.form
  obtain ⟨h1, h2, hz, hb⟩ := last_two hb1
  have Hb : Hid (Below w.heap.size w w1) := hb
  clear hb hb1 hi1
  obtain ⟨p0, q0⟩ := h1 0
  obtain ⟨r0, s0⟩ := h2 0
  simp at p0 r0
  clear h1 h2
  go_wp2_with fail
  exact bodyPost_ret (v := .agg #[.slice A' p.length cap']) (by simp [results, Tryz.results8, go_sem, p0]) rfl
    ⟨_, rfl, ((Hi.out.set (by simp) _).set (by simp) _).lower (by omega), (Hb.out.setCell (by simp; omega) _).setCell (by simp) _⟩
end Go.Proofs.YtijgonjnmibifaaGreatDoor
