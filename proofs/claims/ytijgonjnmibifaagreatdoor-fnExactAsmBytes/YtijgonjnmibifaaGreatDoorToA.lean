/- laws.toState and what it calls: what it makes reads as what it was given, in memory of its own. laws.toAsm and what it calls: what it makes reads as what it was given, in memory of its own. -/
import Derived.Test.YtijgonjnmibifaaGreatDoorSt
import Derived.Test.YtijgonjnmibifaaGreatDoorAm
namespace Go.Proofs.YtijgonjnmibifaaGreatDoor
open Go.RowKit

/-- three blocks that were just laid -/
theorem three_rows (w : World) (C D E : Array Value) (t u s : TypeId) : VRow (((w.alloc (.cells C t)).alloc (.cells D u)).alloc (.cells E s)) w.heap.size C.toList ∧ VRow (((w.alloc (.cells C t)).alloc (.cells D u)).alloc (.cells E s)) (w.heap.size + 1) D.toList ∧
    VRow (((w.alloc (.cells C t)).alloc (.cells D u)).alloc (.cells E s)) (w.heap.size + 1 + 1) E.toList ∧ Below w.heap.size w (((w.alloc (.cells C t)).alloc (.cells D u)).alloc (.cells E s)) := by
  have h1 : (w.alloc (.cells C t)).heap.size = w.heap.size + 1 := by simp
  have h2 : ((w.alloc (.cells C t)).alloc (.cells D u)).heap.size = w.heap.size + 1 + 1 := by simp
  have y0 := vrow_new w C t
  have y1 := vrow_new (w.alloc (.cells C t)) D u
  have y2 := vrow_new ((w.alloc (.cells C t)).alloc (.cells D u)) E s
  rw [h1] at y1
  rw [h2] at y2
  have hb1 : Below (w.alloc (.cells C t)).heap.size (w.alloc (.cells C t)) ((w.alloc (.cells C t)).alloc (.cells D u)) := (Below.refl _ _).alloc (Nat.le_refl _) _
  have hb2 : Below ((w.alloc (.cells C t)).alloc (.cells D u)).heap.size ((w.alloc (.cells C t)).alloc (.cells D u)) (((w.alloc (.cells C t)).alloc (.cells D u)).alloc (.cells E s)) := (Below.refl _ _).alloc (Nat.le_refl _) _
  exact ⟨(y0.below hb1).below hb2, y1.below hb2, y2, (((Below.refl _ _).alloc (Nat.le_refl _) _).alloc (by simp) _).alloc (by simp; omega) _⟩

theorem VRow.c {w : World} {b : Nat} {vs : List Value} (h : VRow w b vs) (j : Nat) (hj : j < vs.length) : w.cell? ⟨b, j, none⟩ = some vs[j] := (h.2 j hj).1
theorem VRow.f {w : World} {b : Nat} {vs : List Value} (h : VRow w b vs) (j : Nat) (hj : j < vs.length) : w.frozen? ⟨b, j, none⟩ = false := (h.2 j hj).2

end Go.Proofs.YtijgonjnmibifaaGreatDoor

namespace Go.Proofs.YtijgonjnmibifaaGreatDoor
open Go.RowKit

theorem Tryz.infoVal : (Tryz.prog.info? 62).map (fun i => (i.zero, i.size, i.bytes)) = some (some (.agg #[.int .i64 0, .int .i64 0]), 2, 16) := by kernel_rfl
theorem Tryz.infoMov : (Tryz.prog.info? 64).map (fun i => (i.zero, i.size, i.bytes)) = some (some (.agg #[.int .i64 0, .int .i64 0, .int .i64 0]), 3, 24) := by kernel_rfl
theorem Tryz.infoAi : (Tryz.prog.info? 60).map (fun i => (i.zero, i.size, i.bytes)) = some (some (.agg #[.slice none 0 0, .int .i64 0, .int .i64 0, .slice none 0 0, .int .i64 0]), 5, 72) := by kernel_rfl
theorem Tryz.infoVals : (Tryz.prog.info? 58).map (fun i => (i.zero, i.size, i.bytes)) = some (some (.slice none 0 0), 1, 24) := by kernel_rfl

theorem toVal (x y : Int) (w : World) :
    Calls Tryz.prog 91 #[.agg #[.int .i64 x, .int .i64 y]] w fun e w' => e = .returned (.agg #[.int .i64 x, .int .i64 y]) ∧ Below w.heap.size w w' := by
  go_enter Tryz.func91, Tryz.ntmps91
  go_wp2
  exact bodyPost_ret (v := .agg #[.int .i64 x, .int .i64 y]) (by simp [results, Tryz.results91, go_sem]) rfl ⟨rfl, (((Below.refl _ _).alloc (Nat.le_refl _) _).alloc (by simp) _).alloc (by simp; omega) _⟩

set_option maxHeartbeats 800000 in
theorem toMov (x y z : Int) (w : World) :
    Calls Tryz.prog 123 #[.agg #[.int .i64 x, .int .i64 y, .int .i64 z]] w fun e w' => e = .returned (.agg #[.int .i64 x, .int .i64 y, .int .i64 z]) ∧ Below w.heap.size w w' := by
  obtain ⟨x0, x1, x2, x3⟩ := three_rows w #[.int .i64 x, .int .i64 y, .int .i64 z] #[.int .i64 0, .int .i64 0, .int .i64 0] #[.int .i64 x, .int .i64 0, .int .i64 0] 189 64 64
  have X1 : Hid (VRow _ (w.heap.size + 1) _) := x1
  have X2 : Hid (VRow _ (w.heap.size + 1 + 1) _) := x2
  have X3 : Hid (Below w.heap.size w _) := x3
  clear x0 x1 x2 x3
  go_enter Tryz.func123, Tryz.ntmps123
  go_wp2_with fail
  refine (toVal y z _).mono ?_
  rintro e w1 ⟨rfl, hb1⟩
  have Hb : Hid (Below w.heap.size w w1) := X3.out.trans (hb1.mono X3.out.size)
  have y1 := X1.out.below hb1
  have y2 := X2.out.below hb1
  obtain ⟨p0, q0⟩ := y1.2 0 (by simp)
  obtain ⟨p1, q1⟩ := y1.2 1 (by simp)
  obtain ⟨p2, q2⟩ := y1.2 2 (by simp)
  obtain ⟨r0, s0⟩ := y2.2 0 (by simp)
  obtain ⟨r1, s1⟩ := y2.2 1 (by simp)
  obtain ⟨r2, s2⟩ := y2.2 2 (by simp)
  have hz := y2.1
  clear hb1 y1 y2 X1 X2 X3
  simp at p0 p1 p2 r0 r1 r2
  go_wp2_with fail
  refine bodyPost_ret (v := .agg #[.int .i64 x, .int .i64 y, .int .i64 z]) (by simp [results, Tryz.results123, go_sem, p0, p1, p2]) rfl ⟨rfl, ?_⟩
  repeat (refine Below.setCell ?_ (by simp; try omega) _)
  exact Hb.out

set_option maxRecDepth 100000 in
set_option maxHeartbeats 800000 in
theorem toVals {B : Nat} (v : Value) (c : List (Int × Int)) (w : World) (hr : InsRow B w v c) (hn : c.length ≤ 1048576) :
    Calls Tryz.prog 56 #[v] w fun e w' => ∃ v', e = .returned v' ∧ InsRow w.heap.size w' v' c ∧ Below w.heap.size w w' := by
  obtain ⟨i0, hi, hz0, hz1, hz2⟩ := info_parts Tryz.infoVal
  have hmk := fun (W : World) => run_makeSlice (P := Tryz.prog) W 58 62 i0 _ Tryz.underlying58 hi hz0 .i64 .i64 c.length c.length (by omega) (by omega) (by rw [hz1]; simp; omega) (by rw [hz2]; omega) (by omega)
  simp only [hz1, Int.toNat_natCast] at hmk
  have Hr : Hid (InsRow B w v c) := hr
  obtain ⟨A, cap, rfl, _, hc⟩ := hr
  clear hc
  go_enter Tryz.func56, Tryz.ntmps56
  go_wp2
  clear hmk
  go_loopw [4] (fun i wr => ∃ k : Nat, k ≤ c.length ∧ i = .int .i64 k ∧ Slots wr w.heap.size (c.length * 2) ∧ Below w.heap.size w wr ∧
      ∀ j (h : j < c.length), j < k → wr.cell? ⟨w.heap.size, j * 2, none⟩ = some (.int .i64 c[j].1) ∧ wr.cell? ⟨w.heap.size, j * 2 + 1, none⟩ = some (.int .i64 c[j].2))
    (fun i _ => c.length - (intOf i).toNat)
  case atStart =>
    refine ⟨0, Nat.zero_le _, rfl, ?_, (Below.refl _ _).alloc (Nat.le_refl _) _, fun j _ h => by omega⟩
    have := slots_new w (madeCells #[Value.int .i64 0, Value.int .i64 0] (c.length * 2)) 62
    rwa [size_madeCells] at this
  case round =>
    obtain ⟨k, hk, rfl, hs, hb, hcs⟩ := hrel
    by_cases hkl : k < c.length
    · obtain ⟨A', cap', he, _, hc⟩ := Hr.out.below hb
      simp only [Value.slice.injEq] at he
      obtain ⟨rfl, _, rfl⟩ := he
      obtain ⟨b, off, rfl, _, hlt, c0, c1⟩ := hc k hkl
      have Hb : Hid (Below w.heap.size w wr) := hb
      have Hs : Hid (Slots wr w.heap.size (c.length * 2)) := hs
      have Hcs : Hid (∀ j (h : j < c.length), j < k → wr.cell? ⟨w.heap.size, j * 2, none⟩ = some (.int .i64 c[j].1) ∧ wr.cell? ⟨w.heap.size, j * 2 + 1, none⟩ = some (.int .i64 c[j].2)) := hcs
      clear hc hb hs hcs
      go_wp2_with fail
      refine (toVal _ _ _).mono ?_
      rintro e w1 ⟨rfl, hb1⟩
      have Hb1 : Hid (Below wr.heap.size wr w1) := hb1
      have Hs1 : Hid (Slots w1 w.heap.size (c.length * 2)) := Hs.out.below hb1
      have hw0 : w.heap.size < w1.heap.size := Hs1.out.1
      obtain ⟨⟨z0, hz0⟩, f0⟩ := Hs1.out.2 (k * 2) (by omega)
      obtain ⟨⟨z1, hz1⟩, f1⟩ := Hs1.out.2 (k * 2 + 1) (by omega)
      clear hb1 c0 c1
      go_wp2_with fail
      go_roundw
      case rel =>
        refine ⟨k + 1, by omega, by go_num, (Hs1.out.set _ _).set _ _, ((Hb.out.trans (Hb1.out.mono Hb.out.size)).setCell (by simp) _).setCell (by simp) _, ?_⟩
        intro j hj hjk
        by_cases he : j = k
        · subst he
          exact ⟨by rw [cell_set_far _ _ _ _ _ (by omega), cell_set_at Hs1.out (by omega)], by rw [cell_set_at (Hs1.out.set _ _) (by omega)]⟩
        · have h1 := Hcs.out j hj (by omega)
          exact ⟨by rw [cell_set_far _ _ _ _ _ (by omega), cell_set_far _ _ _ _ _ (by omega), Hb1.out.cell (by exact Hs.out.1)]; exact h1.1, by rw [cell_set_far _ _ _ _ _ (by omega), cell_set_far _ _ _ _ _ (by omega), Hb1.out.cell (by exact Hs.out.1)]; exact h1.2⟩
      case measure => simp [intOf]; omega
    · go_wp2
      go_ret
      refine ⟨_, rfl, ⟨_, _, rfl, by omega, fun i hi => ⟨w.heap.size, 0, rfl, Nat.le_refl _, hs.1, ?_⟩⟩, hb⟩
      simpa using hcs i hi (by omega)

set_option maxRecDepth 100000 in
set_option maxHeartbeats 1600000 in
theorem toMovs {B : Nat} (v : Value) (c : List MvM) (w : World) (hr : MvRow B w v c) (hn : c.length ≤ 1048576) :
    Calls Tryz.prog 90 #[v] w fun e w' => ∃ A cap, e = .returned (.slice A c.length cap) ∧ MvRow w.heap.size w' (.slice A c.length cap) c ∧ Below w.heap.size w w' := by
  obtain ⟨i0, hi, hz0, hz1, hz2⟩ := info_parts Tryz.infoMov
  have hmk := fun (W : World) => run_makeSlice (P := Tryz.prog) W 57 64 i0 _ Tryz.underlying57 hi hz0 .i64 .i64 c.length c.length (by omega) (by omega) (by rw [hz1]; simp; omega) (by rw [hz2]; omega) (by omega)
  simp only [hz1, Int.toNat_natCast] at hmk
  have Hr : Hid (MvRow B w v c) := hr
  obtain ⟨A, cap, rfl, _, hc⟩ := hr
  clear hc
  go_enter Tryz.func90, Tryz.ntmps90
  go_wp2
  clear hmk
  go_loopw [4] (fun i wr => ∃ k : Nat, k ≤ c.length ∧ i = .int .i64 k ∧ Slots wr w.heap.size (c.length * 3) ∧ Below w.heap.size w wr ∧
      ∀ j (h : j < c.length), j < k → wr.cell? ⟨w.heap.size, j * 3, none⟩ = some (.int .i64 c[j].to) ∧ wr.cell? ⟨w.heap.size, j * 3 + 1, none⟩ = some (.int .i64 c[j].kind) ∧ wr.cell? ⟨w.heap.size, j * 3 + 2, none⟩ = some (.int .i64 c[j].n))
    (fun i _ => c.length - (intOf i).toNat)
  case atStart =>
    refine ⟨0, Nat.zero_le _, rfl, ?_, (Below.refl _ _).alloc (Nat.le_refl _) _, fun j _ h => by omega⟩
    have := slots_new w (madeCells #[Value.int .i64 0, Value.int .i64 0, Value.int .i64 0] (c.length * 3)) 64
    rwa [size_madeCells] at this
  case round =>
    obtain ⟨k, hk, rfl, hs, hb, hcs⟩ := hrel
    by_cases hkl : k < c.length
    · obtain ⟨A', cap', he, _, hc⟩ := Hr.out.below hb
      simp only [Value.slice.injEq] at he
      obtain ⟨rfl, _, rfl⟩ := he
      obtain ⟨b, off, rfl, _, hlt, c0, c1, c2⟩ := hc k hkl
      have Hb : Hid (Below w.heap.size w wr) := hb
      have Hs : Hid (Slots wr w.heap.size (c.length * 3)) := hs
      have Hcs : Hid (∀ j (h : j < c.length), j < k → wr.cell? ⟨w.heap.size, j * 3, none⟩ = some (.int .i64 c[j].to) ∧ wr.cell? ⟨w.heap.size, j * 3 + 1, none⟩ = some (.int .i64 c[j].kind) ∧ wr.cell? ⟨w.heap.size, j * 3 + 2, none⟩ = some (.int .i64 c[j].n)) := hcs
      clear hc hb hs hcs
      go_wp2_with fail
      refine (toMov _ _ _ _).mono ?_
      rintro e w1 ⟨rfl, hb1⟩
      have Hb1 : Hid (Below wr.heap.size wr w1) := hb1
      have Hs1 : Hid (Slots w1 w.heap.size (c.length * 3)) := Hs.out.below hb1
      have hw0 : w.heap.size < w1.heap.size := Hs1.out.1
      obtain ⟨⟨z0, hz0⟩, f0⟩ := Hs1.out.2 (k * 3) (by omega)
      obtain ⟨⟨z1, hz1⟩, f1⟩ := Hs1.out.2 (k * 3 + 1) (by omega)
      obtain ⟨⟨z2, hz2⟩, f2⟩ := Hs1.out.2 (k * 3 + 2) (by omega)
      clear hb1 c0 c1 c2
      go_wp2_with fail
      go_roundw
      case rel =>
        refine ⟨k + 1, by omega, by go_num, ((Hs1.out.set _ _).set _ _).set _ _, (((Hb.out.trans (Hb1.out.mono Hb.out.size)).setCell (by simp) _).setCell (by simp) _).setCell (by simp) _, ?_⟩
        intro j hj hjk
        by_cases he : j = k
        · subst he
          refine ⟨?_, ?_, ?_⟩
          · rw [cell_set_far _ _ _ _ _ (by omega), cell_set_far _ _ _ _ _ (by omega), cell_set_at Hs1.out (by omega)]
          · rw [cell_set_far _ _ _ _ _ (by omega), cell_set_at (Hs1.out.set _ _) (by omega)]
          · rw [cell_set_at ((Hs1.out.set _ _).set _ _) (by omega)]
        · have h1 := Hcs.out j hj (by omega)
          refine ⟨?_, ?_, ?_⟩ <;>
            rw [cell_set_far _ _ _ _ _ (by omega), cell_set_far _ _ _ _ _ (by omega), cell_set_far _ _ _ _ _ (by omega), Hb1.out.cell (by exact Hs.out.1)]
          · exact h1.1
          · exact h1.2.1
          · exact h1.2.2
      case measure => simp [intOf]; omega
    · go_wp2
      go_ret
      refine ⟨_, _, rfl, ⟨_, _, rfl, by omega, fun i hi => ⟨w.heap.size, 0, rfl, Nat.le_refl _, hs.1, ?_⟩⟩, hb⟩
      simpa using hcs i hi (by omega)

--@end

set_option maxHeartbeats 1600000 in
theorem toAi {B : Nat} (x y z : Int) (v u : Value) (l : List MvM) (t : List (Int × Int)) (w : World) (hr : MvRow B w v l) (hu : InsRow B w u t) (hn : l.length ≤ 1048576) (hm : t.length ≤ 1048576) :
    Calls Tryz.prog 55 #[.agg #[v, .int .i64 x, .int .i64 y, u, .int .i64 z]] w fun e w' => ∃ v' u', e = .returned (.agg #[v', .int .i64 x, .int .i64 y, u', .int .i64 z]) ∧ MvRow w.heap.size w' v' l ∧ InsRow w.heap.size w' u' t ∧ Below w.heap.size w w' := by
  have Hr : Hid (MvRow B w v l) := hr
  have Hu : Hid (InsRow B w u t) := hu
  obtain ⟨A, cap, rfl⟩ := hr.form
  obtain ⟨D, dap, rfl⟩ := hu.form
  clear hr hu
  obtain ⟨x0, x1, x2, x3⟩ := three_rows w #[.slice A l.length cap, .int .i64 x, .int .i64 y, .slice D t.length dap, .int .i64 z] #[.slice none 0 0, .int .i64 0, .int .i64 0, .slice none 0 0, .int .i64 0] #[.slice none 0 0, .int .i64 0, .int .i64 0, .slice none 0 0, .int .i64 0] 100 60 60
  have X0 : Hid (VRow _ w.heap.size _) := x0
  have X1 : Hid (VRow _ (w.heap.size + 1) _) := x1
  have X2 : Hid (VRow _ (w.heap.size + 1 + 1) _) := x2
  have X3 : Hid (Below w.heap.size w _) := x3
  clear x0 x1 x2 x3
  go_enter Tryz.func55, Tryz.ntmps55
  go_wp2_with fail
  refine (toMovs _ l _ (Hr.out.below X3.out) hn).mono ?_
  rintro e w1 ⟨A', cap', rfl, hi1, hb1⟩
  have Hi : Hid (MvRow (w.heap.size + 1 + 1 + 1) w1 (.slice A' l.length cap') l) := hi1.lower (by simp)
  have Y0 : Hid (VRow w1 w.heap.size [.slice A l.length cap, .int .i64 x, .int .i64 y, .slice D t.length dap, .int .i64 z]) := X0.out.below hb1
  have Y1 : Hid (VRow w1 (w.heap.size + 1) [.slice none 0 0, .int .i64 0, .int .i64 0, .slice none 0 0, .int .i64 0]) := X1.out.below hb1
  have Y2 : Hid (VRow w1 (w.heap.size + 1 + 1) [.slice none 0 0, .int .i64 0, .int .i64 0, .slice none 0 0, .int .i64 0]) := X2.out.below hb1
  have Hb1 : Hid (Below w.heap.size w w1) := X3.out.trans (hb1.mono X3.out.size)
  clear hi1 hb1 X0 X1 X2 X3
  obtain ⟨wa, hwa⟩ : ∃ wa, wa = ((w1.setCell ⟨w.heap.size + 1 + 1, 0, none⟩ (.slice A' l.length cap')).setCell ⟨w.heap.size + 1 + 1, 1, none⟩ (.int .i64 x)).setCell ⟨w.heap.size + 1 + 1, 2, none⟩ (.int .i64 y) := ⟨_, rfl⟩
  have Z0 : Hid (VRow wa w.heap.size [.slice A l.length cap, .int .i64 x, .int .i64 y, .slice D t.length dap, .int .i64 z]) := by rw [hwa]; exact ((Y0.out.set_far _ _ (by simp; omega)).set_far _ _ (by simp; omega)).set_far _ _ (by simp; omega)
  have Z1 : Hid (VRow wa (w.heap.size + 1) [.slice none 0 0, .int .i64 0, .int .i64 0, .slice none 0 0, .int .i64 0]) := by rw [hwa]; exact ((Y1.out.set_far _ _ (by simp)).set_far _ _ (by simp)).set_far _ _ (by simp)
  have Z2 : Hid (VRow wa (w.heap.size + 1 + 1) [.slice A' l.length cap', .int .i64 x, .int .i64 y, .slice none 0 0, .int .i64 0]) := by rw [hwa]; exact ((Y2.out.set_at 0 _ (by simp)).set_at 1 _ (by simp)).set_at 2 _ (by simp)
  have Z3 : Hid (Below w.heap.size w wa) := by rw [hwa]; exact ((Hb1.out.setCell (by simp; omega) _).setCell (by simp; omega) _).setCell (by simp; omega) _
  have Zi : Hid (MvRow (w.heap.size + 1 + 1 + 1) wa (.slice A' l.length cap') l) := by rw [hwa]; exact ((Hi.out.set (by simp) _).set (by simp) _).set (by simp) _
  obtain ⟨g0, k0⟩ := Y2.out.2 0 (by simp)
  obtain ⟨g1, k1⟩ := Y2.out.2 1 (by simp)
  obtain ⟨g2, k2⟩ := Y2.out.2 2 (by simp)
  have d1 := Y0.out.c 1 (by simp)
  have d2 := Y0.out.c 2 (by simp)
  have d3 := Y0.out.c 3 (by simp)
  have b2 := Y2.out.1
  simp at g0 g1 g2 d1 d2 d3
  go_wp2_with fail
  try rw [← hwa]
  refine (toVals _ t _ (Hu.out.below Z3.out) hm).mono ?_
  rintro e w2 ⟨u', rfl, hi2, hb2⟩
  have Hj : Hid (InsRow (w.heap.size + 1 + 1 + 1) w2 u' t) := hi2.lower (by have := Z2.out.1; omega)
  have Hi2 : Hid (MvRow (w.heap.size + 1 + 1 + 1) w2 (.slice A' l.length cap') l) := Zi.out.below hb2
  obtain ⟨D', dap', rfl⟩ := hi2.form
  have V0 : Hid (VRow w2 w.heap.size [.slice A l.length cap, .int .i64 x, .int .i64 y, .slice D t.length dap, .int .i64 z]) := Z0.out.below hb2
  have V1 : Hid (VRow w2 (w.heap.size + 1) [.slice none 0 0, .int .i64 0, .int .i64 0, .slice none 0 0, .int .i64 0]) := Z1.out.below hb2
  have V2 : Hid (VRow w2 (w.heap.size + 1 + 1) [.slice A' l.length cap', .int .i64 x, .int .i64 y, .slice none 0 0, .int .i64 0]) := Z2.out.below hb2
  have Hb2 : Hid (Below w.heap.size w w2) := Z3.out.trans (hb2.mono Z3.out.size)
  clear hi2 hb2 g0 g1 g2 k0 k1 k2 d1 d2 d3 b2 Y0 Y1 Y2 Z0 Z1 Z2 Z3 Zi Hb1 hwa Hi
  obtain ⟨p0, q0⟩ := V1.out.2 0 (by simp)
  obtain ⟨p1, q1⟩ := V1.out.2 1 (by simp)
  obtain ⟨p2, q2⟩ := V1.out.2 2 (by simp)
  obtain ⟨p3, q3⟩ := V1.out.2 3 (by simp)
  obtain ⟨p4, q4⟩ := V1.out.2 4 (by simp)
  obtain ⟨r0, s0⟩ := V2.out.2 0 (by simp)
  obtain ⟨r1, s1⟩ := V2.out.2 1 (by simp)
  obtain ⟨r2, s2⟩ := V2.out.2 2 (by simp)
  obtain ⟨r3, s3⟩ := V2.out.2 3 (by simp)
  obtain ⟨r4, s4⟩ := V2.out.2 4 (by simp)
  have d4 := V0.out.c 4 (by simp)
  have hz := V2.out.1
  simp at p0 p1 p2 p3 p4 r0 r1 r2 r3 r4 d4
  go_wp2_with fail
  refine bodyPost_ret (v := .agg #[.slice A' l.length cap', .int .i64 x, .int .i64 y, .slice D' t.length dap', .int .i64 z]) (by simp [results, Tryz.results55, go_sem, p0, p1, p2, p3, p4]) rfl
    ⟨_, _, rfl, ?_, ?_, ?_⟩
  · refine MvRow.lower (B := w.heap.size + 1 + 1 + 1) ?_ (by omega)
    repeat (refine MvRow.set ?_ (by simp) _)
    exact Hi2.out
  · refine InsRow.lower (B := w.heap.size + 1 + 1 + 1) ?_ (by omega)
    repeat (refine InsRow.set ?_ (by simp) _)
    exact Hj.out
  · repeat (refine Below.setCell ?_ (by simp; try omega) _)
    exact Hb2.out

set_option maxRecDepth 100000 in
set_option maxHeartbeats 1600000 in
theorem toAis {B : Nat} (v : Value) (p : List AiM) (w : World) (hr : AiRow B w v p) (hn : bulkA p ≤ 1048576) :
    Calls Tryz.prog 26 #[v] w fun e w' => ∃ v', e = .returned v' ∧ AiRow w.heap.size w' v' p ∧ Below w.heap.size w w' := by
  have hl : p.length ≤ 1048576 := by unfold bulkA at hn; omega
  obtain ⟨i0, hi, hz0, hz1, hz2⟩ := info_parts Tryz.infoAi
  have hmk := fun (W : World) => run_makeSlice (P := Tryz.prog) W 36 60 i0 _ Tryz.underlying36 hi hz0 .i64 .i64 p.length p.length (by omega) (by omega) (by rw [hz1]; simp; omega) (by rw [hz2]; omega) (by omega)
  simp only [hz1, Int.toNat_natCast] at hmk
  have Hr : Hid (AiRow B w v p) := hr
  obtain ⟨A, cap, rfl⟩ := hr.form
  clear hr
  go_enter Tryz.func26, Tryz.ntmps26
  go_wp2
  clear hmk
  go_loopw [4] (fun i wr => ∃ k : Nat, k ≤ p.length ∧ i = .int .i64 k ∧ Slots wr w.heap.size (p.length * 5) ∧ Below w.heap.size w wr ∧
      ∀ j (h : j < p.length), j < k → ∃ x y, wr.cell? ⟨w.heap.size, j * 5, none⟩ = some x ∧ wr.cell? ⟨w.heap.size, j * 5 + 1, none⟩ = some (.int .i64 p[j].op) ∧ wr.cell? ⟨w.heap.size, j * 5 + 2, none⟩ = some (.int .i64 p[j].to) ∧ wr.cell? ⟨w.heap.size, j * 5 + 3, none⟩ = some y ∧ wr.cell? ⟨w.heap.size, j * 5 + 4, none⟩ = some (.int .i64 p[j].t) ∧ MvRow (w.heap.size + 1) wr x p[j].pre ∧ InsRow (w.heap.size + 1) wr y p[j].l)
    (fun i _ => p.length - (intOf i).toNat)
  case atStart =>
    refine ⟨0, Nat.zero_le _, rfl, ?_, (Below.refl _ _).alloc (Nat.le_refl _) _, fun j _ h => by omega⟩
    have := slots_new w (madeCells #[Value.slice none 0 0, Value.int .i64 0, Value.int .i64 0, Value.slice none 0 0, Value.int .i64 0] (p.length * 5)) 60
    rwa [size_madeCells] at this
  case round =>
    obtain ⟨k, hk, rfl, hs, hb, hcs⟩ := hrel
    by_cases hkl : k < p.length
    · obtain ⟨b, off, x, y, rfl, hlt, c0, c1, c2, c3, c4, hx, hy⟩ := (Hr.out.below hb).at k hkl
      have Hx : Hid (MvRow B wr x p[k].pre) := hx
      have Hy : Hid (InsRow B wr y p[k].l) := hy
      have Hb : Hid (Below w.heap.size w wr) := hb
      have Hs : Hid (Slots wr w.heap.size (p.length * 5)) := hs
      have Hcs : Hid (∀ j (h : j < p.length), j < k → ∃ x y, wr.cell? ⟨w.heap.size, j * 5, none⟩ = some x ∧ wr.cell? ⟨w.heap.size, j * 5 + 1, none⟩ = some (.int .i64 p[j].op) ∧ wr.cell? ⟨w.heap.size, j * 5 + 2, none⟩ = some (.int .i64 p[j].to) ∧ wr.cell? ⟨w.heap.size, j * 5 + 3, none⟩ = some y ∧ wr.cell? ⟨w.heap.size, j * 5 + 4, none⟩ = some (.int .i64 p[j].t) ∧ MvRow (w.heap.size + 1) wr x p[j].pre ∧ InsRow (w.heap.size + 1) wr y p[j].l) := hcs
      have hbk : p[k].pre.length + p[k].l.length ≤ 1048576 := by have h := sum_le AiM.bulk p k hkl; unfold bulkA at hn; unfold AiM.bulk at h hn; omega
      clear hb hs hcs hx hy
      go_wp2_with fail
      refine (toAi _ _ _ x y p[k].pre p[k].l _ Hx.out Hy.out (by omega) (by omega)).mono ?_
      rintro e w1 ⟨v1, u1, rfl, hi1, hj1, hb1⟩
      have Hb1 : Hid (Below wr.heap.size wr w1) := hb1
      have Hs1 : Hid (Slots w1 w.heap.size (p.length * 5)) := Hs.out.below hb1
      have hw0 : w.heap.size < w1.heap.size := Hs1.out.1
      have Hi1 : Hid (MvRow (w.heap.size + 1) w1 v1 p[k].pre) := hi1.lower Hs.out.1
      have Hj1 : Hid (InsRow (w.heap.size + 1) w1 u1 p[k].l) := hj1.lower Hs.out.1
      obtain ⟨A1, cap1, rfl⟩ := hi1.form
      obtain ⟨A2, cap2, rfl⟩ := hj1.form
      obtain ⟨⟨z0, hz0⟩, f0⟩ := Hs1.out.2 (k * 5) (by omega)
      obtain ⟨⟨z1, hz1⟩, f1⟩ := Hs1.out.2 (k * 5 + 1) (by omega)
      obtain ⟨⟨z2, hz2⟩, f2⟩ := Hs1.out.2 (k * 5 + 2) (by omega)
      obtain ⟨⟨z3, hz3⟩, f3⟩ := Hs1.out.2 (k * 5 + 3) (by omega)
      obtain ⟨⟨z4, hz4⟩, f4⟩ := Hs1.out.2 (k * 5 + 4) (by omega)
      clear hb1 c0 c1 c2 c3 c4 hi1 hj1
      go_wp2_with fail
      go_roundw
      case rel =>
        refine ⟨k + 1, by omega, by go_num, ((((Hs1.out.set _ _).set _ _).set _ _).set _ _).set _ _, (((((Hb.out.trans (Hb1.out.mono Hb.out.size)).setCell (by simp) _).setCell (by simp) _).setCell (by simp) _).setCell (by simp) _).setCell (by simp) _, ?_⟩
        intro j hj hjk
        by_cases he : j = k
        · subst he
          exact ⟨_, _, by rw [cell_set_far _ _ _ _ _ (by omega), cell_set_far _ _ _ _ _ (by omega), cell_set_far _ _ _ _ _ (by omega), cell_set_far _ _ _ _ _ (by omega), cell_set_at Hs1.out (by omega)], by rw [cell_set_far _ _ _ _ _ (by omega), cell_set_far _ _ _ _ _ (by omega), cell_set_far _ _ _ _ _ (by omega), cell_set_at (Hs1.out.set _ _) (by omega)],
            by rw [cell_set_far _ _ _ _ _ (by omega), cell_set_far _ _ _ _ _ (by omega), cell_set_at ((Hs1.out.set _ _).set _ _) (by omega)], by rw [cell_set_far _ _ _ _ _ (by omega), cell_set_at (((Hs1.out.set _ _).set _ _).set _ _) (by omega)], cell_set_at ((((Hs1.out.set _ _).set _ _).set _ _).set _ _) (by omega) _,
            ((((Hi1.out.set (by simp) _).set (by simp) _).set (by simp) _).set (by simp) _).set (by simp) _, ((((Hj1.out.set (by simp) _).set (by simp) _).set (by simp) _).set (by simp) _).set (by simp) _⟩
        · obtain ⟨x, y, h0, h1, h2, h3, h4, h5, h6⟩ := Hcs.out j hj (by omega)
          refine ⟨x, y, ?_, ?_, ?_, ?_, ?_, (((((h5.below Hb1.out).set (by simp) _).set (by simp) _).set (by simp) _).set (by simp) _).set (by simp) _, (((((h6.below Hb1.out).set (by simp) _).set (by simp) _).set (by simp) _).set (by simp) _).set (by simp) _⟩
          · rw [cell_set_far _ _ _ _ _ (by omega), cell_set_far _ _ _ _ _ (by omega), cell_set_far _ _ _ _ _ (by omega), cell_set_far _ _ _ _ _ (by omega), cell_set_far _ _ _ _ _ (by omega), Hb1.out.cell (by exact Hs.out.1)]; exact h0
          · rw [cell_set_far _ _ _ _ _ (by omega), cell_set_far _ _ _ _ _ (by omega), cell_set_far _ _ _ _ _ (by omega), cell_set_far _ _ _ _ _ (by omega), cell_set_far _ _ _ _ _ (by omega), Hb1.out.cell (by exact Hs.out.1)]; exact h1
          · rw [cell_set_far _ _ _ _ _ (by omega), cell_set_far _ _ _ _ _ (by omega), cell_set_far _ _ _ _ _ (by omega), cell_set_far _ _ _ _ _ (by omega), cell_set_far _ _ _ _ _ (by omega), Hb1.out.cell (by exact Hs.out.1)]; exact h2
          · rw [cell_set_far _ _ _ _ _ (by omega), cell_set_far _ _ _ _ _ (by omega), cell_set_far _ _ _ _ _ (by omega), cell_set_far _ _ _ _ _ (by omega), cell_set_far _ _ _ _ _ (by omega), Hb1.out.cell (by exact Hs.out.1)]; exact h3
          · rw [cell_set_far _ _ _ _ _ (by omega), cell_set_far _ _ _ _ _ (by omega), cell_set_far _ _ _ _ _ (by omega), cell_set_far _ _ _ _ _ (by omega), cell_set_far _ _ _ _ _ (by omega), Hb1.out.cell (by exact Hs.out.1)]; exact h4
      case measure => simp [intOf]; omega
    · go_wp2
      go_ret
      refine ⟨_, rfl, ⟨_, _, rfl, by omega, fun i hi => ?_⟩, hb⟩
      obtain ⟨x, y, h0, h1, h2, h3, h4, h5, h6⟩ := hcs i hi (by omega)
      exact ⟨w.heap.size, 0, x, y, rfl, Nat.le_refl _, hs.1, by simpa using h0, by simpa using h1, by simpa using h2, by simpa using h3, by simpa using h4, h5.lower (by omega), h6.lower (by omega)⟩

set_option maxRecDepth 100000 in
set_option maxHeartbeats 1600000 in
theorem toMaps {B : Nat} (v : Value) (p : List (List (Int × Int))) (w : World) (hr : MapsRow B w v p) (hn : bulkV p ≤ 1048576) :
    Calls Tryz.prog 27 #[v] w fun e w' => ∃ v', e = .returned v' ∧ MapsRow w.heap.size w' v' p ∧ Below w.heap.size w w' := by
  have hl : p.length ≤ 1048576 := by unfold bulkV at hn; omega
  obtain ⟨i0, hi, hz0, hz1, hz2⟩ := info_parts Tryz.infoVals
  have hmk := fun (W : World) => run_makeSlice (P := Tryz.prog) W 37 58 i0 _ Tryz.underlying37 hi hz0 .i64 .i64 p.length p.length (by omega) (by omega) (by rw [hz1]; simp; omega) (by rw [hz2]; omega) (by omega)
  simp only [hz1, Int.toNat_natCast, Nat.mul_one] at hmk
  have Hr : Hid (MapsRow B w v p) := hr
  obtain ⟨A, cap, rfl⟩ := hr.form
  clear hr
  go_enter Tryz.func27, Tryz.ntmps27
  go_wp2
  clear hmk
  go_loopw [4] (fun i wr => ∃ k : Nat, k ≤ p.length ∧ i = .int .i64 k ∧ Slots wr w.heap.size p.length ∧ Below w.heap.size w wr ∧
      ∀ j (h : j < p.length), j < k → ∃ x, wr.cell? ⟨w.heap.size, j, none⟩ = some x ∧ InsRow (w.heap.size + 1) wr x p[j])
    (fun i _ => p.length - (intOf i).toNat)
  case atStart =>
    refine ⟨0, Nat.zero_le _, rfl, ?_, (Below.refl _ _).alloc (Nat.le_refl _) _, fun j _ h => by omega⟩
    have := slots_new w (madeCells #[Value.slice none 0 0] p.length) 58
    rwa [size_madeCells] at this
  case round =>
    obtain ⟨k, hk, rfl, hs, hb, hcs⟩ := hrel
    by_cases hkl : k < p.length
    · obtain ⟨b, off, x, rfl, hlt, c0, hx⟩ := (Hr.out.below hb).at k hkl
      have Hx : Hid (InsRow B wr x p[k]) := hx
      have Hb : Hid (Below w.heap.size w wr) := hb
      have Hs : Hid (Slots wr w.heap.size p.length) := hs
      have Hcs : Hid (∀ j (h : j < p.length), j < k → ∃ x, wr.cell? ⟨w.heap.size, j, none⟩ = some x ∧ InsRow (w.heap.size + 1) wr x p[j]) := hcs
      have hbk : p[k].length ≤ 1048576 := by have h := sum_le List.length p k hkl; unfold bulkV at hn; omega
      obtain ⟨Ax, cx, rfl⟩ := hx.form
      clear hb hs hcs hx
      go_wp2_with fail
      refine (toVals _ p[k] _ Hx.out hbk).mono ?_
      rintro e w1 ⟨v1, rfl, hi1, hb1⟩
      have Hb1 : Hid (Below wr.heap.size wr w1) := hb1
      have Hs1 : Hid (Slots w1 w.heap.size p.length) := Hs.out.below hb1
      have hw0 : w.heap.size < w1.heap.size := Hs1.out.1
      have Hi1 : Hid (InsRow (w.heap.size + 1) w1 v1 p[k]) := hi1.lower Hs.out.1
      obtain ⟨A1, cap1, rfl⟩ := hi1.form
      obtain ⟨⟨z0, hz0⟩, f0⟩ := Hs1.out.2 k hkl
      clear hb1 c0 hi1
      go_wp2_with fail
      go_roundw
      case rel =>
        refine ⟨k + 1, by omega, by go_num, Hs1.out.set _ _, (Hb.out.trans (Hb1.out.mono Hb.out.size)).setCell (by simp) _, ?_⟩
        intro j hj hjk
        by_cases he : j = k
        · subst he
          exact ⟨_, cell_set_at Hs1.out hj _, Hi1.out.set (by simp) _⟩
        · obtain ⟨x, h0, h4⟩ := Hcs.out j hj (by omega)
          refine ⟨x, ?_, (h4.below Hb1.out).set (by simp) _⟩
          rw [cell_set_far _ _ _ _ _ (by omega), Hb1.out.cell (by exact Hs.out.1)]; exact h0
      case measure => simp [intOf]; omega
    · go_wp2
      go_ret
      refine ⟨_, rfl, ⟨_, _, rfl, by omega, fun i hi => ?_⟩, hb⟩
      obtain ⟨x, h0, h4⟩ := hcs i hi (by omega)
      exact ⟨w.heap.size, 0, x, rfl, Nat.le_refl _, hs.1, by simpa using h0, h4.lower (by omega)⟩

set_option maxRecDepth 100000 in
set_option maxHeartbeats 3200000 in
theorem toAsm {B : Nat} (x y : Value) (a : AsM) (w : World) (hr : AsRow B w x y a) (hn : a.bulk ≤ 1048576) :
    Calls Tryz.prog 9 #[asV x y a] w fun e w' => ∃ A c D d, e = .returned (.agg #[.int .i64 a.func, .slice A a.code.length c, .slice D a.maps.length d]) ∧ AsRow w.heap.size w' (.slice A a.code.length c) (.slice D a.maps.length d) a ∧ Below w.heap.size w w' := by
  obtain ⟨hx, hy⟩ := hr
  have Hx : Hid (AiRow B w x a.code) := hx
  have Hy : Hid (MapsRow B w y a.maps) := hy
  obtain ⟨A, ca, rfl⟩ := hx.form
  obtain ⟨D, cd, rfl⟩ := hy.form
  clear hx hy
  unfold asV
  unfold AsM.bulk at hn
  obtain ⟨x0, x1, x2, x3⟩ := three_rows w #[.int .i64 a.func, .slice A a.code.length ca, .slice D a.maps.length cd] #[.int .i64 0, .slice none 0 0, .slice none 0 0] #[.int .i64 a.func, .slice none 0 0, .slice none 0 0] 28 39 39
  have X0 : Hid (VRow _ w.heap.size _) := x0
  have X1 : Hid (VRow _ (w.heap.size + 1) _) := x1
  have X2 : Hid (VRow _ (w.heap.size + 1 + 1) _) := x2
  have X3 : Hid (Below w.heap.size w _) := x3
  clear x0 x1 x2 x3
  go_enter Tryz.func9, Tryz.ntmps9
  go_wp2_with fail
  refine (toAis _ a.code _ (Hx.out.below X3.out) (by omega)).mono ?_
  rintro e w1 ⟨x', rfl, hi1, hb1⟩
  have Hi : Hid (AiRow (w.heap.size + 1 + 1 + 1) w1 x' a.code) := hi1.lower (by simp)
  obtain ⟨A', ca', rfl⟩ := hi1.form
  have Y0 : Hid (VRow w1 w.heap.size [.int .i64 a.func, .slice A a.code.length ca, .slice D a.maps.length cd]) := X0.out.below hb1
  have Y1 : Hid (VRow w1 (w.heap.size + 1) [.int .i64 0, .slice none 0 0, .slice none 0 0]) := X1.out.below hb1
  have Y2 : Hid (VRow w1 (w.heap.size + 1 + 1) [.int .i64 a.func, .slice none 0 0, .slice none 0 0]) := X2.out.below hb1
  have Hb1 : Hid (Below w.heap.size w w1) := X3.out.trans (hb1.mono X3.out.size)
  clear hi1 hb1 X0 X1 X2 X3
  obtain ⟨wa, hwa⟩ : ∃ wa, wa = w1.setCell ⟨w.heap.size + 1 + 1, 1, none⟩ (.slice A' a.code.length ca') := ⟨_, rfl⟩
  have Za : Hid (VRow wa w.heap.size [.int .i64 a.func, .slice A a.code.length ca, .slice D a.maps.length cd]) := by rw [hwa]; exact Y0.out.set_far _ _ (by simp; omega)
  have Zb : Hid (VRow wa (w.heap.size + 1) [.int .i64 0, .slice none 0 0, .slice none 0 0]) := by rw [hwa]; exact Y1.out.set_far _ _ (by simp)
  have Zc : Hid (VRow wa (w.heap.size + 1 + 1) [.int .i64 a.func, .slice A' a.code.length ca', .slice none 0 0]) := by rw [hwa]; exact Y2.out.set_at 1 _ (by simp)
  have Zd : Hid (Below w.heap.size w wa) := by rw [hwa]; exact Hb1.out.setCell (by simp; omega) _
  have Ze : Hid (AiRow (w.heap.size + 1 + 1 + 1) wa (.slice A' a.code.length ca') a.code) := by rw [hwa]; exact Hi.out.set (by simp) _
  have d2 := Y2.out.c 1 (by simp)
  have f2 := Y2.out.f 1 (by simp)
  have d0 := Y0.out.c 2 (by simp)
  have b2 := Y2.out.1
  simp at d2 d0
  go_wp2_with fail
  try rw [← hwa]
  refine (toMaps _ a.maps _ (Hy.out.below Zd.out) (by omega)).mono ?_
  rintro e w2 ⟨y', rfl, hi2, hb2⟩
  have Hj : Hid (MapsRow (w.heap.size + 1 + 1 + 1) w2 y' a.maps) := hi2.lower (by have := Zc.out.1; omega)
  have Hi2 : Hid (AiRow (w.heap.size + 1 + 1 + 1) w2 (.slice A' a.code.length ca') a.code) := Ze.out.below hb2
  obtain ⟨D', cd', rfl⟩ := hi2.form
  have V1 : Hid (VRow w2 (w.heap.size + 1) [.int .i64 0, .slice none 0 0, .slice none 0 0]) := Zb.out.below hb2
  have V2 : Hid (VRow w2 (w.heap.size + 1 + 1) [.int .i64 a.func, .slice A' a.code.length ca', .slice none 0 0]) := Zc.out.below hb2
  have Hb2 : Hid (Below w.heap.size w w2) := Zd.out.trans (hb2.mono Zd.out.size)
  clear hi2 hb2 d2 f2 d0 b2 Y0 Y1 Y2 Za Zb Zc Zd Ze Hb1 Hi hwa
  obtain ⟨p0, q0⟩ := V1.out.2 0 (by simp)
  obtain ⟨p1, q1⟩ := V1.out.2 1 (by simp)
  obtain ⟨p2, q2⟩ := V1.out.2 2 (by simp)
  obtain ⟨r0, s0⟩ := V2.out.2 0 (by simp)
  obtain ⟨r1, s1⟩ := V2.out.2 1 (by simp)
  obtain ⟨r2, s2⟩ := V2.out.2 2 (by simp)
  have hz := V2.out.1
  simp at p0 p1 p2 r0 r1 r2
  go_wp2_with fail
  refine bodyPost_ret (v := .agg #[.int .i64 a.func, .slice A' a.code.length ca', .slice D' a.maps.length cd']) (by simp [results, Tryz.results9, go_sem, p0, p1, p2]) rfl
    ⟨_, _, _, _, rfl, ⟨?_, ?_⟩, ?_⟩
  · refine AiRow.lower (B := w.heap.size + 1 + 1 + 1) ?_ (by omega)
    repeat (refine AiRow.set ?_ (by simp) _)
    exact Hi2.out
  · refine MapsRow.lower (B := w.heap.size + 1 + 1 + 1) ?_ (by omega)
    repeat (refine MapsRow.set ?_ (by simp) _)
    exact Hj.out
  · repeat (refine Below.setCell ?_ (by simp; try omega) _)
    exact Hb2.out
end Go.Proofs.YtijgonjnmibifaaGreatDoor
