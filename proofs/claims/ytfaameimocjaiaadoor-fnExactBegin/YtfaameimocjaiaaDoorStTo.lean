/- laws.toState and what it calls: what it makes reads as what it was given, in memory of its own. -/
import Derived.Test.YtfaameimocjaiaaDoorSt
namespace Go.Proofs.YtfaameimocjaiaaDoor
open Go.RowKit

theorem Tryd.infoFrame : (Tryd.prog.info? 71).map (fun i => (i.zero, i.size, i.bytes)) = some (some (.agg #[.int .i64 0, .int .i64 0, .slice none 0 0, .slice none 0 0]), 4, 64) := by kernel_rfl
theorem Tryd.infoInts : (Tryd.prog.info? 33).map (fun i => (i.zero, i.size, i.bytes)) = some (some (.slice none 0 0), 1, 24) := by kernel_rfl

set_option maxRecDepth 100000 in
set_option maxHeartbeats 800000 in
theorem toInts {B : Nat} (v : Value) (c : List Int) (w : World) (hr : IRow B w v c) (hn : c.length ≤ 1048576) :
    Calls Tryd.prog 12 #[v] w fun e w' => ∃ v', e = .returned v' ∧ IRow w.heap.size w' v' c ∧ Below w.heap.size w w' := by
  obtain ⟨i0, hi, hz0, hz1, hz2⟩ := info_parts Tryd.info64
  have hmk := fun (W : World) => run_makeSlice (P := Tryd.prog) W 33 2 i0 _ Tryd.underlying33 hi hz0 .i64 .i64 c.length c.length (by omega) (by omega) (by rw [hz1]; simp; omega) (by rw [hz2]; omega) (by omega)
  simp only [hz1, Int.toNat_natCast, Nat.mul_one] at hmk
  have Hr : Hid (IRow B w v c) := hr
  obtain ⟨A, cap, rfl, _, hc⟩ := hr
  clear hc
  go_enter Tryd.func12, Tryd.ntmps12
  go_wp2
  clear hmk
  go_loopw [4] (fun i wr => ∃ k : Nat, k ≤ c.length ∧ i = .int .i64 k ∧ Slots wr w.heap.size c.length ∧ Below w.heap.size w wr ∧ ∀ j (h : j < c.length), j < k → wr.cell? ⟨w.heap.size, j, none⟩ = some (.int .i64 c[j]))
    (fun i _ => c.length - (intOf i).toNat)
  case atStart =>
    refine ⟨0, Nat.zero_le _, rfl, ?_, (Below.refl _ _).alloc (Nat.le_refl _) _, fun j _ h => by omega⟩
    have := slots_new w (madeCells #[Value.int .i64 0] c.length) 2
    rwa [size_madeCells] at this
  case round =>
    obtain ⟨k, hk, rfl, hs, hb, hcs⟩ := hrel
    by_cases hkl : k < c.length
    · obtain ⟨b, off, rfl, _, hlt, c0⟩ := (Hr.out.below hb).at k hkl
      have Hb : Hid (Below w.heap.size w wr) := hb
      have Hs : Hid (Slots wr w.heap.size c.length) := hs
      have Hcs : Hid (∀ j (h : j < c.length), j < k → wr.cell? ⟨w.heap.size, j, none⟩ = some (.int .i64 c[j])) := hcs
      have hw0 : w.heap.size < wr.heap.size := hs.1
      obtain ⟨⟨z0, hz0⟩, f0⟩ := hs.2 k hkl
      clear hb hs hcs
      go_wp2_with fail
      go_roundw
      case rel =>
        refine ⟨k + 1, by omega, by go_num, Hs.out.set _ _, Hb.out.setCell (by simp) _, ?_⟩
        intro j hj hjk
        by_cases he : j = k
        · subst he
          exact cell_set_at Hs.out hj _
        · rw [cell_set_far _ _ _ _ _ (by omega)]; exact Hcs.out j hj (by omega)
      case measure => simp [intOf]; omega
    · go_wp2
      go_ret
      refine ⟨_, rfl, ⟨_, _, rfl, by omega, fun i hi => ⟨w.heap.size, 0, rfl, Nat.le_refl _, hs.1, ?_⟩⟩, hb⟩
      simpa using hcs i hi (by omega)

/-- three blocks that were just laid -/
theorem three_rows (w : World) (C D E : Array Value) (t u s : TypeId) : VRow (((w.alloc (.cells C t)).alloc (.cells D u)).alloc (.cells E s)) w.heap.size C.toList ∧ VRow (((w.alloc (.cells C t)).alloc (.cells D u)).alloc (.cells E s)) (w.heap.size + 1) D.toList ∧
    VRow (((w.alloc (.cells C t)).alloc (.cells D u)).alloc (.cells E s)) (w.heap.size + 1 + 1) E.toList ∧ Below w.heap.size w (((w.alloc (.cells C t)).alloc (.cells D u)).alloc (.cells E s)) := by
  have h1 : (w.alloc (.cells C t)).heap.size = w.heap.size + 1 := by simp
  have h2 : ((w.alloc (.cells C t)).alloc (.cells D u)).heap.size = w.heap.size + 1 + 1 := by simp
  have y0 := vrow_new w C t
  have y1 := vrow_new (w.alloc (.cells C t)) D u
  have y2 := vrow_new ((w.alloc (.cells C t)).alloc (.cells D u)) E s
  rw [h1] at y1
  rw [h2] at y2
  have hb1 : Below (w.alloc (.cells C t)).heap.size (w.alloc (.cells C t)) ((w.alloc (.cells C t)).alloc (.cells D u)) := (Below.refl _ _).alloc (Nat.le_refl _) _
  have hb2 : Below ((w.alloc (.cells C t)).alloc (.cells D u)).heap.size ((w.alloc (.cells C t)).alloc (.cells D u)) (((w.alloc (.cells C t)).alloc (.cells D u)).alloc (.cells E s)) := (Below.refl _ _).alloc (Nat.le_refl _) _
  exact ⟨(y0.below hb1).below hb2, y1.below hb2, y2, (((Below.refl _ _).alloc (Nat.le_refl _) _).alloc (by simp) _).alloc (by simp; omega) _⟩

theorem VRow.c {w : World} {b : Nat} {vs : List Value} (h : VRow w b vs) (j : Nat) (hj : j < vs.length) : w.cell? ⟨b, j, none⟩ = some vs[j] := (h.2 j hj).1
theorem VRow.f {w : World} {b : Nat} {vs : List Value} (h : VRow w b vs) (j : Nat) (hj : j < vs.length) : w.frozen? ⟨b, j, none⟩ = false := (h.2 j hj).2

set_option maxHeartbeats 1600000 in
theorem toFrame {B : Nat} (x y : Int) (v u : Value) (l t : List Int) (w : World) (hr : IRow B w v l) (hu : IRow B w u t) (hn : l.length ≤ 1048576) (hm : t.length ≤ 1048576) :
    Calls Tryd.prog 70 #[.agg #[.int .i64 x, .int .i64 y, v, u]] w fun e w' => ∃ v' u', e = .returned (.agg #[.int .i64 x, .int .i64 y, v', u']) ∧ IRow w.heap.size w' v' l ∧ IRow w.heap.size w' u' t ∧ Below w.heap.size w w' := by
  have Hr : Hid (IRow B w v l) := hr
  have Hu : Hid (IRow B w u t) := hu
  obtain ⟨A, cap, rfl⟩ := hr.form
  obtain ⟨D, dap, rfl⟩ := hu.form
  clear hr hu
  obtain ⟨x0, x1, x2, x3⟩ := three_rows w #[.int .i64 x, .int .i64 y, .slice A l.length cap, .slice D t.length dap] #[.int .i64 0, .int .i64 0, .slice none 0 0, .slice none 0 0] #[.int .i64 x, .int .i64 y, .slice none 0 0, .slice none 0 0] 102 71 71
  have X0 : Hid (VRow _ w.heap.size _) := x0
  have X1 : Hid (VRow _ (w.heap.size + 1) _) := x1
  have X2 : Hid (VRow _ (w.heap.size + 1 + 1) _) := x2
  have X3 : Hid (Below w.heap.size w _) := x3
  clear x0 x1 x2 x3
  go_enter Tryd.func70, Tryd.ntmps70
  go_wp2_with fail
  refine (toInts _ l _ (Hr.out.below X3.out) hn).mono ?_
  rintro e w1 ⟨v', rfl, hi1, hb1⟩
  have Hi : Hid (IRow (w.heap.size + 1 + 1 + 1) w1 v' l) := hi1.lower (by simp)
  obtain ⟨A', cap', rfl⟩ := hi1.form
  have Y0 : Hid (VRow w1 w.heap.size [.int .i64 x, .int .i64 y, .slice A l.length cap, .slice D t.length dap]) := X0.out.below hb1
  have Y1 : Hid (VRow w1 (w.heap.size + 1) [.int .i64 0, .int .i64 0, .slice none 0 0, .slice none 0 0]) := X1.out.below hb1
  have Y2 : Hid (VRow w1 (w.heap.size + 1 + 1) [.int .i64 x, .int .i64 y, .slice none 0 0, .slice none 0 0]) := X2.out.below hb1
  have Hb1 : Hid (Below w.heap.size w w1) := X3.out.trans (hb1.mono X3.out.size)
  clear hi1 hb1 X0 X1 X2 X3
  have Z0 : Hid (VRow (w1.setCell ⟨w.heap.size + 1 + 1, 2, none⟩ (.slice A' l.length cap')) w.heap.size [.int .i64 x, .int .i64 y, .slice A l.length cap, .slice D t.length dap]) := Y0.out.set_far _ _ (by simp; omega)
  have Z1 : Hid (VRow (w1.setCell ⟨w.heap.size + 1 + 1, 2, none⟩ (.slice A' l.length cap')) (w.heap.size + 1) [.int .i64 0, .int .i64 0, .slice none 0 0, .slice none 0 0]) := Y1.out.set_far _ _ (by simp)
  have Z2 : Hid (VRow (w1.setCell ⟨w.heap.size + 1 + 1, 2, none⟩ (.slice A' l.length cap')) (w.heap.size + 1 + 1) [.int .i64 x, .int .i64 y, .slice A' l.length cap', .slice none 0 0]) := Y2.out.set_at 2 _ (by simp)
  have Z3 : Hid (Below w.heap.size w (w1.setCell ⟨w.heap.size + 1 + 1, 2, none⟩ (.slice A' l.length cap'))) := Hb1.out.setCell (by simp; omega) _
  have Zi : Hid (IRow (w.heap.size + 1 + 1 + 1) (w1.setCell ⟨w.heap.size + 1 + 1, 2, none⟩ (.slice A' l.length cap')) (.slice A' l.length cap') l) := Hi.out.set (by simp) _
  have d2 := Y2.out.c 2 (by simp)
  have f2 := Y2.out.f 2 (by simp)
  have d0 := Y0.out.c 3 (by simp)
  have b2 := Y2.out.1
  simp at d2 d0
  go_wp2_with fail
  refine (toInts _ t _ (Hu.out.below Z3.out) hm).mono ?_
  rintro e w2 ⟨u', rfl, hi2, hb2⟩
  have Hj : Hid (IRow (w.heap.size + 1 + 1 + 1) w2 u' t) := hi2.lower (by have := Z2.out.1; omega)
  have Hi2 : Hid (IRow (w.heap.size + 1 + 1 + 1) w2 (.slice A' l.length cap') l) := Zi.out.below hb2
  obtain ⟨D', dap', rfl⟩ := hi2.form
  have V1 : Hid (VRow w2 (w.heap.size + 1) [.int .i64 0, .int .i64 0, .slice none 0 0, .slice none 0 0]) := Z1.out.below hb2
  have V2 : Hid (VRow w2 (w.heap.size + 1 + 1) [.int .i64 x, .int .i64 y, .slice A' l.length cap', .slice none 0 0]) := Z2.out.below hb2
  have Hb2 : Hid (Below w.heap.size w w2) := Z3.out.trans (hb2.mono Z3.out.size)
  clear hi2 hb2 d2 f2 d0 b2 Y0 Y1 Y2 Z0 Z1 Z2 Z3 Zi Hb1
  obtain ⟨p0, q0⟩ := V1.out.2 0 (by simp)
  obtain ⟨p1, q1⟩ := V1.out.2 1 (by simp)
  obtain ⟨p2, q2⟩ := V1.out.2 2 (by simp)
  obtain ⟨p3, q3⟩ := V1.out.2 3 (by simp)
  obtain ⟨r0, s0⟩ := V2.out.2 0 (by simp)
  obtain ⟨r1, s1⟩ := V2.out.2 1 (by simp)
  obtain ⟨r2, s2⟩ := V2.out.2 2 (by simp)
  obtain ⟨r3, s3⟩ := V2.out.2 3 (by simp)
  have hz := V2.out.1
  simp at p0 p1 p2 p3 r0 r1 r2 r3
  go_wp2_with fail
  exact bodyPost_ret (v := .agg #[.int .i64 x, .int .i64 y, .slice A' l.length cap', .slice D' t.length dap']) (by simp [results, Tryd.results70, go_sem, p0, p1, p2, p3]) rfl
    ⟨_, _, rfl, (((((Hi2.out.set (by simp) _).set (by simp) _).set (by simp) _).set (by simp) _).set (by simp) _).lower (by omega), (((((Hj.out.set (by simp) _).set (by simp) _).set (by simp) _).set (by simp) _).set (by simp) _).lower (by omega), ((((Hb2.out.setCell (by simp; omega) _).setCell (by simp) _).setCell (by simp) _).setCell (by simp) _).setCell (by simp) _⟩

set_option maxRecDepth 100000 in
set_option maxHeartbeats 1600000 in
theorem toFrames {B : Nat} (v : Value) (p : List FrM) (w : World) (hr : FrRow B w v p) (hn : bulkF p ≤ 1048576) :
    Calls Tryd.prog 52 #[v] w fun e w' => ∃ v', e = .returned v' ∧ FrRow w.heap.size w' v' p ∧ Below w.heap.size w w' := by
  have hl : p.length ≤ 1048576 := by unfold bulkF at hn; omega
  obtain ⟨i0, hi, hz0, hz1, hz2⟩ := info_parts Tryd.infoFrame
  have hmk := fun (W : World) => run_makeSlice (P := Tryd.prog) W 34 71 i0 _ Tryd.underlying34 hi hz0 .i64 .i64 p.length p.length (by omega) (by omega) (by rw [hz1]; simp; omega) (by rw [hz2]; omega) (by omega)
  simp only [hz1, Int.toNat_natCast] at hmk
  have Hr : Hid (FrRow B w v p) := hr
  obtain ⟨A, cap, rfl⟩ := hr.form
  clear hr
  go_enter Tryd.func52, Tryd.ntmps52
  go_wp2
  clear hmk
  go_loopw [4] (fun i wr => ∃ k : Nat, k ≤ p.length ∧ i = .int .i64 k ∧ Slots wr w.heap.size (p.length * 4) ∧ Below w.heap.size w wr ∧
      ∀ j (h : j < p.length), j < k → ∃ x y, wr.cell? ⟨w.heap.size, j * 4, none⟩ = some (.int .i64 p[j].func) ∧ wr.cell? ⟨w.heap.size, j * 4 + 1, none⟩ = some (.int .i64 p[j].pc) ∧ wr.cell? ⟨w.heap.size, j * 4 + 2, none⟩ = some x ∧ wr.cell? ⟨w.heap.size, j * 4 + 3, none⟩ = some y ∧ IRow (w.heap.size + 1) wr x p[j].locals ∧ IRow (w.heap.size + 1) wr y p[j].stack)
    (fun i _ => p.length - (intOf i).toNat)
  case atStart =>
    refine ⟨0, Nat.zero_le _, rfl, ?_, (Below.refl _ _).alloc (Nat.le_refl _) _, fun j _ h => by omega⟩
    have := slots_new w (madeCells #[Value.int .i64 0, Value.int .i64 0, Value.slice none 0 0, Value.slice none 0 0] (p.length * 4)) 71
    rwa [size_madeCells] at this
  case round =>
    obtain ⟨k, hk, rfl, hs, hb, hcs⟩ := hrel
    by_cases hkl : k < p.length
    · obtain ⟨b, off, x, y, rfl, hlt, c0, c1, c2, c3, hx, hy⟩ := (Hr.out.below hb).at k hkl
      have Hx : Hid (IRow B wr x p[k].locals) := hx
      have Hy : Hid (IRow B wr y p[k].stack) := hy
      have Hb : Hid (Below w.heap.size w wr) := hb
      have Hs : Hid (Slots wr w.heap.size (p.length * 4)) := hs
      have Hcs : Hid (∀ j (h : j < p.length), j < k → ∃ x y, wr.cell? ⟨w.heap.size, j * 4, none⟩ = some (.int .i64 p[j].func) ∧ wr.cell? ⟨w.heap.size, j * 4 + 1, none⟩ = some (.int .i64 p[j].pc) ∧ wr.cell? ⟨w.heap.size, j * 4 + 2, none⟩ = some x ∧ wr.cell? ⟨w.heap.size, j * 4 + 3, none⟩ = some y ∧ IRow (w.heap.size + 1) wr x p[j].locals ∧ IRow (w.heap.size + 1) wr y p[j].stack) := hcs
      have hbk : p[k].locals.length + p[k].stack.length ≤ 1048576 := by have h := sum_le FrM.bulk p k hkl; unfold bulkF at hn; unfold FrM.bulk at h hn; omega
      clear hb hs hcs hx hy
      go_wp2_with fail
      refine (toFrame _ _ x y p[k].locals p[k].stack _ Hx.out Hy.out (by omega) (by omega)).mono ?_
      rintro e w1 ⟨v1, u1, rfl, hi1, hj1, hb1⟩
      have Hb1 : Hid (Below wr.heap.size wr w1) := hb1
      have Hs1 : Hid (Slots w1 w.heap.size (p.length * 4)) := Hs.out.below hb1
      have hw0 : w.heap.size < w1.heap.size := Hs1.out.1
      have Hi1 : Hid (IRow (w.heap.size + 1) w1 v1 p[k].locals) := hi1.lower Hs.out.1
      have Hj1 : Hid (IRow (w.heap.size + 1) w1 u1 p[k].stack) := hj1.lower Hs.out.1
      obtain ⟨A1, cap1, rfl⟩ := hi1.form
      obtain ⟨A2, cap2, rfl⟩ := hj1.form
      obtain ⟨⟨z0, hz0⟩, f0⟩ := Hs1.out.2 (k * 4) (by omega)
      obtain ⟨⟨z1, hz1⟩, f1⟩ := Hs1.out.2 (k * 4 + 1) (by omega)
      obtain ⟨⟨z2, hz2⟩, f2⟩ := Hs1.out.2 (k * 4 + 2) (by omega)
      obtain ⟨⟨z3, hz3⟩, f3⟩ := Hs1.out.2 (k * 4 + 3) (by omega)
      clear hb1 c0 c1 c2 c3 hi1 hj1
      go_wp2_with fail
      go_roundw
      case rel =>
        refine ⟨k + 1, by omega, by go_num, (((Hs1.out.set _ _).set _ _).set _ _).set _ _, ((((Hb.out.trans (Hb1.out.mono Hb.out.size)).setCell (by simp) _).setCell (by simp) _).setCell (by simp) _).setCell (by simp) _, ?_⟩
        intro j hj hjk
        by_cases he : j = k
        · subst he
          exact ⟨_, _, by rw [cell_set_far _ _ _ _ _ (by omega), cell_set_far _ _ _ _ _ (by omega), cell_set_far _ _ _ _ _ (by omega), cell_set_at Hs1.out (by omega)], by rw [cell_set_far _ _ _ _ _ (by omega), cell_set_far _ _ _ _ _ (by omega), cell_set_at (Hs1.out.set _ _) (by omega)],
            by rw [cell_set_far _ _ _ _ _ (by omega), cell_set_at ((Hs1.out.set _ _).set _ _) (by omega)], cell_set_at (((Hs1.out.set _ _).set _ _).set _ _) (by omega) _,
            (((Hi1.out.set (by simp) _).set (by simp) _).set (by simp) _).set (by simp) _, (((Hj1.out.set (by simp) _).set (by simp) _).set (by simp) _).set (by simp) _⟩
        · obtain ⟨x, y, h0, h1, h2, h3, h4, h5⟩ := Hcs.out j hj (by omega)
          refine ⟨x, y, ?_, ?_, ?_, ?_, ((((h4.below Hb1.out).set (by simp) _).set (by simp) _).set (by simp) _).set (by simp) _, ((((h5.below Hb1.out).set (by simp) _).set (by simp) _).set (by simp) _).set (by simp) _⟩
          · rw [cell_set_far _ _ _ _ _ (by omega), cell_set_far _ _ _ _ _ (by omega), cell_set_far _ _ _ _ _ (by omega), cell_set_far _ _ _ _ _ (by omega), Hb1.out.cell (by exact Hs.out.1)]; exact h0
          · rw [cell_set_far _ _ _ _ _ (by omega), cell_set_far _ _ _ _ _ (by omega), cell_set_far _ _ _ _ _ (by omega), cell_set_far _ _ _ _ _ (by omega), Hb1.out.cell (by exact Hs.out.1)]; exact h1
          · rw [cell_set_far _ _ _ _ _ (by omega), cell_set_far _ _ _ _ _ (by omega), cell_set_far _ _ _ _ _ (by omega), cell_set_far _ _ _ _ _ (by omega), Hb1.out.cell (by exact Hs.out.1)]; exact h2
          · rw [cell_set_far _ _ _ _ _ (by omega), cell_set_far _ _ _ _ _ (by omega), cell_set_far _ _ _ _ _ (by omega), cell_set_far _ _ _ _ _ (by omega), Hb1.out.cell (by exact Hs.out.1)]; exact h3
      case measure => simp [intOf]; omega
    · go_wp2
      go_ret
      refine ⟨_, rfl, ⟨_, _, rfl, by omega, fun i hi => ?_⟩, hb⟩
      obtain ⟨x, y, h0, h1, h2, h3, h4, h5⟩ := hcs i hi (by omega)
      exact ⟨w.heap.size, 0, x, y, rfl, Nat.le_refl _, hs.1, by simpa using h0, by simpa using h1, by simpa using h2, by simpa using h3, h4.lower (by omega), h5.lower (by omega)⟩

set_option maxRecDepth 100000 in
set_option maxHeartbeats 1600000 in
theorem toArrs {B : Nat} (v : Value) (p : List (List Int)) (w : World) (hr : ArrRow B w v p) (hn : bulkH p ≤ 1048576) :
    Calls Tryd.prog 53 #[v] w fun e w' => ∃ v', e = .returned v' ∧ ArrRow w.heap.size w' v' p ∧ Below w.heap.size w w' := by
  have hl : p.length ≤ 1048576 := by unfold bulkH at hn; omega
  obtain ⟨i0, hi, hz0, hz1, hz2⟩ := info_parts Tryd.infoInts
  have hmk := fun (W : World) => run_makeSlice (P := Tryd.prog) W 35 33 i0 _ Tryd.underlying35 hi hz0 .i64 .i64 p.length p.length (by omega) (by omega) (by rw [hz1]; simp; omega) (by rw [hz2]; omega) (by omega)
  simp only [hz1, Int.toNat_natCast, Nat.mul_one] at hmk
  have Hr : Hid (ArrRow B w v p) := hr
  obtain ⟨A, cap, rfl⟩ := hr.form
  clear hr
  go_enter Tryd.func53, Tryd.ntmps53
  go_wp2
  clear hmk
  go_loopw [4] (fun i wr => ∃ k : Nat, k ≤ p.length ∧ i = .int .i64 k ∧ Slots wr w.heap.size p.length ∧ Below w.heap.size w wr ∧
      ∀ j (h : j < p.length), j < k → ∃ x, wr.cell? ⟨w.heap.size, j, none⟩ = some x ∧ IRow (w.heap.size + 1) wr x p[j])
    (fun i _ => p.length - (intOf i).toNat)
  case atStart =>
    refine ⟨0, Nat.zero_le _, rfl, ?_, (Below.refl _ _).alloc (Nat.le_refl _) _, fun j _ h => by omega⟩
    have := slots_new w (madeCells #[Value.slice none 0 0] p.length) 33
    rwa [size_madeCells] at this
  case round =>
    obtain ⟨k, hk, rfl, hs, hb, hcs⟩ := hrel
    by_cases hkl : k < p.length
    · obtain ⟨b, off, x, rfl, hlt, c0, hx⟩ := (Hr.out.below hb).at k hkl
      have Hx : Hid (IRow B wr x p[k]) := hx
      have Hb : Hid (Below w.heap.size w wr) := hb
      have Hs : Hid (Slots wr w.heap.size p.length) := hs
      have Hcs : Hid (∀ j (h : j < p.length), j < k → ∃ x, wr.cell? ⟨w.heap.size, j, none⟩ = some x ∧ IRow (w.heap.size + 1) wr x p[j]) := hcs
      have hbk : p[k].length ≤ 1048576 := by have h := sum_le List.length p k hkl; unfold bulkH at hn; omega
      obtain ⟨Ax, cx, rfl⟩ := hx.form
      clear hb hs hcs hx
      go_wp2_with fail
      refine (toInts _ p[k] _ Hx.out hbk).mono ?_
      rintro e w1 ⟨v1, rfl, hi1, hb1⟩
      have Hb1 : Hid (Below wr.heap.size wr w1) := hb1
      have Hs1 : Hid (Slots w1 w.heap.size p.length) := Hs.out.below hb1
      have hw0 : w.heap.size < w1.heap.size := Hs1.out.1
      have Hi1 : Hid (IRow (w.heap.size + 1) w1 v1 p[k]) := hi1.lower Hs.out.1
      obtain ⟨A1, cap1, rfl⟩ := hi1.form
      obtain ⟨⟨z0, hz0⟩, f0⟩ := Hs1.out.2 k hkl
      clear hb1 c0 hi1
      go_wp2_with fail
      go_roundw
      case rel =>
        refine ⟨k + 1, by omega, by go_num, Hs1.out.set _ _, (Hb.out.trans (Hb1.out.mono Hb.out.size)).setCell (by simp) _, ?_⟩
        intro j hj hjk
        by_cases he : j = k
        · subst he
          exact ⟨_, cell_set_at Hs1.out hj _, Hi1.out.set (by simp) _⟩
        · obtain ⟨x, h0, h4⟩ := Hcs.out j hj (by omega)
          refine ⟨x, ?_, (h4.below Hb1.out).set (by simp) _⟩
          rw [cell_set_far _ _ _ _ _ (by omega), Hb1.out.cell (by exact Hs.out.1)]; exact h0
      case measure => simp [intOf]; omega
    · go_wp2
      go_ret
      refine ⟨_, rfl, ⟨_, _, rfl, by omega, fun i hi => ?_⟩, hb⟩
      obtain ⟨x, h0, h4⟩ := hcs i hi (by omega)
      exact ⟨w.heap.size, 0, x, rfl, Nat.le_refl _, hs.1, by simpa using h0, h4.lower (by omega)⟩

set_option maxRecDepth 100000 in
set_option maxHeartbeats 3200000 in
theorem toState {B : Nat} (x y z : Value) (s : StM) (w : World) (hr : StRow B w x y z s) (hn : s.bulk ≤ 1048576) :
    Calls Tryd.prog 22 #[stV x y z s] w fun e w' => ∃ x' y' z', e = .returned (stV x' y' z' s) ∧ StRow w.heap.size w' x' y' z' s ∧ Below w.heap.size w w' := by
  obtain ⟨hx, hy, hz⟩ := hr
  have Hx : Hid (FrRow B w x s.frames) := hx
  have Hy : Hid (ArrRow B w y s.heap) := hy
  have Hz : Hid (IRow B w z s.out) := hz
  obtain ⟨A, ca, rfl⟩ := hx.form
  obtain ⟨D, cd, rfl⟩ := hy.form
  obtain ⟨E, ce, rfl⟩ := hz.form
  clear hx hy hz
  unfold stV
  unfold StM.bulk at hn
  obtain ⟨x0, x1, x2, x3⟩ := three_rows w #[.slice A s.frames.length ca, .slice D s.heap.length cd, .slice E s.out.length ce, .int .i64 s.fuel, .bool s.done, .int .i64 s.value, .int .i64 s.trap]
    #[.slice none 0 0, .slice none 0 0, .slice none 0 0, .int .i64 0, .bool false, .int .i64 0, .int .i64 0] #[.slice none 0 0, .slice none 0 0, .slice none 0 0, .int .i64 0, .bool false, .int .i64 0, .int .i64 0] 48 37 37
  have X0 : Hid (VRow _ w.heap.size _) := x0
  have X1 : Hid (VRow _ (w.heap.size + 1) _) := x1
  have X2 : Hid (VRow _ (w.heap.size + 1 + 1) _) := x2
  have X3 : Hid (Below w.heap.size w _) := x3
  clear x0 x1 x2 x3
  go_enter Tryd.func22, Tryd.ntmps22
  go_wp2_with fail
  refine (toFrames _ s.frames _ (Hx.out.below X3.out) (by omega)).mono ?_
  rintro e w1 ⟨x', rfl, hi1, hb1⟩
  have Hi : Hid (FrRow (w.heap.size + 1 + 1 + 1) w1 x' s.frames) := hi1.lower (by simp)
  obtain ⟨A', ca', rfl⟩ := hi1.form
  have Y0 : Hid (VRow w1 w.heap.size [.slice A s.frames.length ca, .slice D s.heap.length cd, .slice E s.out.length ce, .int .i64 s.fuel, .bool s.done, .int .i64 s.value, .int .i64 s.trap]) := X0.out.below hb1
  have Y1 : Hid (VRow w1 (w.heap.size + 1) [.slice none 0 0, .slice none 0 0, .slice none 0 0, .int .i64 0, .bool false, .int .i64 0, .int .i64 0]) := X1.out.below hb1
  have Y2 : Hid (VRow w1 (w.heap.size + 1 + 1) [.slice none 0 0, .slice none 0 0, .slice none 0 0, .int .i64 0, .bool false, .int .i64 0, .int .i64 0]) := X2.out.below hb1
  have Hb1 : Hid (Below w.heap.size w w1) := X3.out.trans (hb1.mono X3.out.size)
  clear hi1 hb1 X0 X1 X2 X3
  obtain ⟨wa, hwa⟩ : ∃ wa, wa = w1.setCell ⟨w.heap.size + 1 + 1, 0, none⟩ (.slice A' s.frames.length ca') := ⟨_, rfl⟩
  have Za : Hid (VRow wa w.heap.size [.slice A s.frames.length ca, .slice D s.heap.length cd, .slice E s.out.length ce, .int .i64 s.fuel, .bool s.done, .int .i64 s.value, .int .i64 s.trap]) := by rw [hwa]; exact Y0.out.set_far _ _ (by simp; omega)
  have Zb : Hid (VRow wa (w.heap.size + 1) [.slice none 0 0, .slice none 0 0, .slice none 0 0, .int .i64 0, .bool false, .int .i64 0, .int .i64 0]) := by rw [hwa]; exact Y1.out.set_far _ _ (by simp)
  have Zc : Hid (VRow wa (w.heap.size + 1 + 1) [.slice A' s.frames.length ca', .slice none 0 0, .slice none 0 0, .int .i64 0, .bool false, .int .i64 0, .int .i64 0]) := by rw [hwa]; exact Y2.out.set_at 0 _ (by simp)
  have Zd : Hid (Below w.heap.size w wa) := by rw [hwa]; exact Hb1.out.setCell (by simp; omega) _
  have Ze : Hid (FrRow (w.heap.size + 1 + 1 + 1) wa (.slice A' s.frames.length ca') s.frames) := by rw [hwa]; exact Hi.out.set (by simp) _
  have d2 := Y2.out.c 0 (by simp)
  have f2 := Y2.out.f 0 (by simp)
  have d0 := Y0.out.c 1 (by simp)
  have b2 := Y2.out.1
  simp at d2 d0
  go_wp2_with fail
  try rw [← hwa]
  refine (toArrs _ s.heap _ (Hy.out.below Zd.out) (by omega)).mono ?_
  rintro e w2 ⟨y', rfl, hi2, hb2⟩
  have Hj : Hid (ArrRow (w.heap.size + 1 + 1 + 1) w2 y' s.heap) := hi2.lower (by have := Zc.out.1; omega)
  have Hi2 : Hid (FrRow (w.heap.size + 1 + 1 + 1) w2 (.slice A' s.frames.length ca') s.frames) := Ze.out.below hb2
  obtain ⟨D', cd', rfl⟩ := hi2.form
  have V0 : Hid (VRow w2 w.heap.size [.slice A s.frames.length ca, .slice D s.heap.length cd, .slice E s.out.length ce, .int .i64 s.fuel, .bool s.done, .int .i64 s.value, .int .i64 s.trap]) := Za.out.below hb2
  have V1 : Hid (VRow w2 (w.heap.size + 1) [.slice none 0 0, .slice none 0 0, .slice none 0 0, .int .i64 0, .bool false, .int .i64 0, .int .i64 0]) := Zb.out.below hb2
  have V2 : Hid (VRow w2 (w.heap.size + 1 + 1) [.slice A' s.frames.length ca', .slice none 0 0, .slice none 0 0, .int .i64 0, .bool false, .int .i64 0, .int .i64 0]) := Zc.out.below hb2
  have Hb2 : Hid (Below w.heap.size w w2) := Zd.out.trans (hb2.mono Zd.out.size)
  clear hi2 hb2 d2 f2 d0 b2 Y0 Y1 Y2 Za Zb Zc Zd Ze Hb1 Hi hwa
  obtain ⟨wb, hwb⟩ : ∃ wb, wb = w2.setCell ⟨w.heap.size + 1 + 1, 1, none⟩ (.slice D' s.heap.length cd') := ⟨_, rfl⟩
  have Za : Hid (VRow wb w.heap.size [.slice A s.frames.length ca, .slice D s.heap.length cd, .slice E s.out.length ce, .int .i64 s.fuel, .bool s.done, .int .i64 s.value, .int .i64 s.trap]) := by rw [hwb]; exact V0.out.set_far _ _ (by simp; omega)
  have Zb : Hid (VRow wb (w.heap.size + 1) [.slice none 0 0, .slice none 0 0, .slice none 0 0, .int .i64 0, .bool false, .int .i64 0, .int .i64 0]) := by rw [hwb]; exact V1.out.set_far _ _ (by simp)
  have Zc : Hid (VRow wb (w.heap.size + 1 + 1) [.slice A' s.frames.length ca', .slice D' s.heap.length cd', .slice none 0 0, .int .i64 0, .bool false, .int .i64 0, .int .i64 0]) := by rw [hwb]; exact V2.out.set_at 1 _ (by simp)
  have Zd : Hid (Below w.heap.size w wb) := by rw [hwb]; exact Hb2.out.setCell (by simp; omega) _
  have Ze : Hid (FrRow (w.heap.size + 1 + 1 + 1) wb (.slice A' s.frames.length ca') s.frames) := by rw [hwb]; exact Hi2.out.set (by simp) _
  have Zf : Hid (ArrRow (w.heap.size + 1 + 1 + 1) wb (.slice D' s.heap.length cd') s.heap) := by rw [hwb]; exact Hj.out.set (by simp) _
  have d2 := V2.out.c 1 (by simp)
  have f2 := V2.out.f 1 (by simp)
  have d0 := V0.out.c 2 (by simp)
  have b2 := V2.out.1
  simp at d2 d0
  go_wp2_with fail
  try rw [← hwb]
  refine (toInts _ s.out _ (Hz.out.below Zd.out) (by omega)).mono ?_
  rintro e w3 ⟨z', rfl, hi3, hb3⟩
  have Hk3 : Hid (IRow (w.heap.size + 1 + 1 + 1) w3 z' s.out) := hi3.lower (by have := Zc.out.1; omega)
  have Hi3 : Hid (FrRow (w.heap.size + 1 + 1 + 1) w3 (.slice A' s.frames.length ca') s.frames) := Ze.out.below hb3
  have Hj3 : Hid (ArrRow (w.heap.size + 1 + 1 + 1) w3 (.slice D' s.heap.length cd') s.heap) := Zf.out.below hb3
  obtain ⟨E', ce', rfl⟩ := hi3.form
  have V0' : Hid (VRow w3 w.heap.size [.slice A s.frames.length ca, .slice D s.heap.length cd, .slice E s.out.length ce, .int .i64 s.fuel, .bool s.done, .int .i64 s.value, .int .i64 s.trap]) := Za.out.below hb3
  have V1' : Hid (VRow w3 (w.heap.size + 1) [.slice none 0 0, .slice none 0 0, .slice none 0 0, .int .i64 0, .bool false, .int .i64 0, .int .i64 0]) := Zb.out.below hb3
  have V2' : Hid (VRow w3 (w.heap.size + 1 + 1) [.slice A' s.frames.length ca', .slice D' s.heap.length cd', .slice none 0 0, .int .i64 0, .bool false, .int .i64 0, .int .i64 0]) := Zc.out.below hb3
  have Hb3 : Hid (Below w.heap.size w w3) := Zd.out.trans (hb3.mono Zd.out.size)
  clear hi3 hb3 d2 f2 d0 b2 V0 V1 V2 Za Zb Zc Zd Ze Zf Hb2 Hi2 Hj hwb
  obtain ⟨p0, q0⟩ := V1'.out.2 0 (by simp)
  obtain ⟨p1, q1⟩ := V1'.out.2 1 (by simp)
  obtain ⟨p2, q2⟩ := V1'.out.2 2 (by simp)
  obtain ⟨p3, q3⟩ := V1'.out.2 3 (by simp)
  obtain ⟨p4, q4⟩ := V1'.out.2 4 (by simp)
  obtain ⟨p5, q5⟩ := V1'.out.2 5 (by simp)
  obtain ⟨p6, q6⟩ := V1'.out.2 6 (by simp)
  obtain ⟨r0, s0⟩ := V2'.out.2 0 (by simp)
  obtain ⟨r1, s1⟩ := V2'.out.2 1 (by simp)
  obtain ⟨r2, s2⟩ := V2'.out.2 2 (by simp)
  obtain ⟨r3, s3⟩ := V2'.out.2 3 (by simp)
  obtain ⟨r4, s4⟩ := V2'.out.2 4 (by simp)
  obtain ⟨r5, s5⟩ := V2'.out.2 5 (by simp)
  obtain ⟨r6, s6⟩ := V2'.out.2 6 (by simp)
  have k3 := V0'.out.c 3 (by simp)
  have k4 := V0'.out.c 4 (by simp)
  have k5 := V0'.out.c 5 (by simp)
  have k6 := V0'.out.c 6 (by simp)
  have hz := V2'.out.1
  simp at p0 p1 p2 p3 p4 p5 p6 r0 r1 r2 r3 r4 r5 r6 k3 k4 k5 k6
  go_wp2_with fail
  refine bodyPost_ret (v := .agg #[.slice A' s.frames.length ca', .slice D' s.heap.length cd', .slice E' s.out.length ce', .int .i64 s.fuel, .bool s.done, .int .i64 s.value, .int .i64 s.trap]) (by simp [results, Tryd.results22, go_sem, p0, p1, p2, p3, p4, p5, p6]) rfl
    ⟨_, _, _, rfl, ⟨?_, ?_, ?_⟩, ?_⟩
  · refine FrRow.lower (B := w.heap.size + 1 + 1 + 1) ?_ (by omega)
    iterate 12 (refine FrRow.set ?_ (by simp) _)
    exact Hi3.out
  · refine ArrRow.lower (B := w.heap.size + 1 + 1 + 1) ?_ (by omega)
    iterate 12 (refine ArrRow.set ?_ (by simp) _)
    exact Hj3.out
  · refine IRow.lower (B := w.heap.size + 1 + 1 + 1) ?_ (by omega)
    iterate 12 (refine IRow.set ?_ (by simp) _)
    exact Hk3.out
  · iterate 12 (refine Below.setCell ?_ (by simp; try omega) _)
    exact Hb3.out
end Go.Proofs.YtfaameimocjaiaaDoor
