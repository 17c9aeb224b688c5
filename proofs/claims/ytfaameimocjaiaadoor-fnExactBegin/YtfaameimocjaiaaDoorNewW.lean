/- impl.newFrame; spec.l06Frame. -/
import Derived.Test.YtfaameimocjaiaaDoorLayW
import Derived.Test.YtfaameimocjaiaaDoorStTo
namespace Go.Proofs.YtfaameimocjaiaaDoor
open Go.RowKit

theorem irow_nil (B : Nat) (w : World) : IRow B w (.slice none 0 0) [] := ⟨none, 0, rfl, by simp, fun i hi => absurd hi (Nat.not_lt_zero _)⟩

/-- a new frame's numbers -/
def newLocals (lo : Nat) (l : List Int) : List Int := l ++ List.replicate (lo - l.length) 0

def NewTold (k lo : Nat) (l : List Int) (w w' : World) (e : Ending) : Prop := ∃ g, e = .returned (.agg #[.int .i64 k, .int .i64 0, .slice (some ⟨g, 0, none⟩) lo lo, .slice (some ⟨g, lo, none⟩) 0 8]) ∧ w.heap.size ≤ g ∧ VRow w' g (ints (newLocals lo l ++ List.replicate 8 0)) ∧ Below w.heap.size w w'

set_option maxRecDepth 100000 in
set_option maxHeartbeats 1600000 in
theorem implNew {B : Nat} (vp v : Value) (p : List FnM) (k lo : Nat) (l : List Int) (w : World) (hr : FnRow 0 w vp p) (hk : k < p.length) (hlo : p[k].locals = (lo : Int)) (hv : IRow B w v l) (hl : l.length ≤ lo) (hb : lo ≤ 1048576) :
    Calls Tryd.prog 37 #[.agg #[vp], .int .i64 k, v] w fun e w' => NewTold k lo l w w' e := by
  have Hr : Hid (FnRow 0 w vp p) := hr
  have Hv : Hid (IRow B w v l) := hv
  have hlen := hr.len
  obtain ⟨A, cap, rfl⟩ := hr.form
  obtain ⟨D, dap, rfl⟩ := hv.form
  obtain ⟨bp, op, xp, rfl, hltp, e0, e1, e2, hxp⟩ := hr.at k hk
  rw [hlo] at e1
  have hkl : (k : Int) < p.length := by omega
  obtain ⟨t0, t1, t2⟩ := boxes_new w #[.slice (some ⟨bp, op, none⟩) p.length cap] #[.int .i64 0, .int .i64 0, .slice none 0 0, .slice none 0 0] 29 71
  obtain ⟨wa, hwa⟩ : ∃ wa, wa = (w.alloc (.cells #[.slice (some ⟨bp, op, none⟩) p.length cap] 29)).alloc (.cells #[.int .i64 0, .int .i64 0, .slice none 0 0, .slice none 0 0] 71) := ⟨_, rfl⟩
  have y1 : VRow wa (w.heap.size + 1) [.int .i64 0, .int .i64 0, .slice none 0 0, .slice none 0 0] := by
    have := vrow_new (w.alloc (.cells #[.slice (some ⟨bp, op, none⟩) p.length cap] 29)) #[.int .i64 0, .int .i64 0, .slice none 0 0, .slice none 0 0] 71
    rw [hwa]; simpa using this
  rw [← hwa] at t2
  have hL := implLay (k : Int) 0 lo (.slice D l.length dap) (.slice none 0 0) l [] wa (hv.below t2) (irow_nil B wa) hl hb (by simp)
  have HL : Hid (Calls Tryd.prog 65 #[.int .i64 k, .int .i64 0, .int .i64 lo, .slice D l.length dap, .slice none 0 0] wa fun e w' => ∃ g, e = .returned (.agg #[.int .i64 k, .int .i64 0, .slice (some ⟨g, 0, none⟩) lo lo, .slice (some ⟨g, lo, none⟩) 0 8]) ∧ wa.heap.size ≤ g ∧ VRow w' g (ints (newLocals lo l ++ List.replicate 8 0)) ∧ Below wa.heap.size wa w') := hL
  have Y1 : Hid (VRow wa (w.heap.size + 1) [.int .i64 0, .int .i64 0, .slice none 0 0, .slice none 0 0]) := y1
  have T2 : Hid (Below w.heap.size w wa) := t2
  clear hr hv t0 t1 t2 y1 hL hxp e0 e2
  go_enter Tryd.func37, Tryd.ntmps37
  go_wp2_with fail
  rw [← hwa]
  clear hwa
  refine HL.out.mono ?_
  rintro e w1 ⟨g, rfl, hg, hV, hb1⟩
  have Y2 := Y1.out.below hb1
  have HV : Hid (VRow w1 g (ints (newLocals lo l ++ List.replicate 8 0))) := hV
  have Hb1 : Hid (Below w.heap.size w w1) := T2.out.trans (hb1.mono T2.out.size)
  have hgg : w.heap.size + 1 < g := Nat.lt_of_lt_of_le Y1.out.1 hg
  obtain ⟨p0, q0⟩ := Y2.2 0 (by simp)
  obtain ⟨p1, q1⟩ := Y2.2 1 (by simp)
  obtain ⟨p2, q2⟩ := Y2.2 2 (by simp)
  obtain ⟨p3, q3⟩ := Y2.2 3 (by simp)
  have z0 := Y2.1
  simp at p0 p1 p2 p3
  clear hV hb1 Y2 HL
  go_wp2_with fail
  refine bodyPost_ret (v := .agg #[.int .i64 k, .int .i64 0, .slice (some ⟨g, 0, none⟩) lo lo, .slice (some ⟨g, lo, none⟩) 0 8]) (by simp [results, Tryd.results37, go_sem, p0, p1, p2, p3]) rfl ⟨g, rfl, by omega, ?_, ?_⟩
  · exact (((HV.out.set_far _ _ (by show w.heap.size + 1 ≠ g; omega)).set_far _ _ (by show w.heap.size + 1 ≠ g; omega)).set_far _ _ (by show w.heap.size + 1 ≠ g; omega)).set_far _ _ (by show w.heap.size + 1 ≠ g; omega)
  · exact (((Hb1.out.setCell (by simp) _).setCell (by simp) _).setCell (by simp) _).setCell (by simp) _

def NewSTold (k lo : Nat) (l : List Int) (w w' : World) (e : Ending) : Prop := ∃ v, e = .returned (.agg #[.int .i64 k, .int .i64 0, v, .slice none 0 0]) ∧ IRow w.heap.size w' v (newLocals lo l) ∧ Below w.heap.size w w'

set_option maxRecDepth 100000 in
set_option maxHeartbeats 1600000 in
theorem specNew {B : Nat} (vp v : Value) (p : List FnM) (k lo : Nat) (l : List Int) (w : World) (hr : FnRow 0 w vp p) (hk : k < p.length) (hlo : p[k].locals = (lo : Int)) (hv : IRow B w v l) (hl : l.length ≤ lo) (hb : lo ≤ 1048576) :
    Calls Tryd.prog 34 #[.agg #[vp], .int .i64 k, v] w fun e w' => NewSTold k lo l w w' e := by
  have hlen := hr.len
  obtain ⟨A, cap, rfl⟩ := hr.form
  obtain ⟨D, dap, rfl⟩ := hv.form
  obtain ⟨bp, op, xp, rfl, hltp, e0, e1, e2, hxp⟩ := hr.at k hk
  rw [hlo] at e1
  have hkl : (k : Int) < p.length := by omega
  obtain ⟨i0, hi, hz0, hz1, hz2⟩ := info_parts Tryd.info64
  have hmk := fun (W : World) => run_makeSlice (P := Tryd.prog) W 33 2 i0 _ Tryd.underlying33 hi hz0 .i64 .i64 lo lo (by omega) (by omega) (by rw [hz1]; simp; omega) (by rw [hz2]; omega) (by omega)
  simp only [hz1, Int.toNat_natCast, Nat.mul_one] at hmk
  obtain ⟨x0, x1, x2, x3⟩ := three_rows w #[.slice (some ⟨bp, op, none⟩) p.length cap] #[.int .i64 0, .int .i64 0, .slice none 0 0, .slice none 0 0] (madeCells #[Value.int .i64 0] lo) 29 71 2
  rw [toList_madeCells_one, show List.replicate lo (Value.int .i64 0) = ints (List.replicate lo 0) by simp [ints]] at x2
  obtain ⟨hcp, hrow, hbel⟩ := run_copyInts (dLen := lo) (dCap := lo) (o := 0) x2 (hv.below x3) hl (by simpa using hl) 3
  obtain ⟨W1, hW1⟩ : ∃ W1, W1 = (((w.alloc (.cells #[.slice (some ⟨bp, op, none⟩) p.length cap] 29)).alloc (.cells #[.int .i64 0, .int .i64 0, .slice none 0 0, .slice none 0 0] 71)).alloc (.cells (madeCells #[Value.int .i64 0] lo) 2)).setCells (w.heap.size + 1 + 1) 0 (ints l) := ⟨_, rfl⟩
  rw [← hW1] at hcp hrow hbel
  have hfin : (List.replicate lo (0 : Int)).take 0 ++ l ++ (List.replicate lo (0 : Int)).drop (0 + l.length) = newLocals lo l := by
    rw [List.drop_replicate, Nat.zero_add, List.take_zero, List.nil_append]; rfl
  rw [hfin] at hrow
  have hbb := hbel (w.heap.size + 1 + 1) (Nat.le_refl _)
  have Y : Hid (VRow W1 (w.heap.size + 1) [.int .i64 0, .int .i64 0, .slice none 0 0, .slice none 0 0]) := ⟨Nat.lt_of_lt_of_le x1.1 hbb.size, fun j hj => by rw [hbb.cell (by show w.heap.size + 1 < w.heap.size + 1 + 1; omega), hbb.frozen (by show w.heap.size + 1 < w.heap.size + 1 + 1; omega)]; exact x1.2 j hj⟩
  have HV : Hid (VRow W1 (w.heap.size + 1 + 1) (ints (newLocals lo l))) := hrow
  have Hb1 : Hid (Below w.heap.size w W1) := x3.trans (hbel _ (by omega))
  have hnl : (newLocals lo l).length = lo := by simp [newLocals]; omega
  have Hnl : Hid ((newLocals lo l).length = lo) := hnl
  clear hr hv hW1 x0 x1 x2 x3 hrow hbel hbb hfin hxp e0 e2 hi hz0 hz1 hz2 hnl
  obtain ⟨p0, q0⟩ := Y.out.2 0 (by simp)
  obtain ⟨p1, q1⟩ := Y.out.2 1 (by simp)
  obtain ⟨p2, q2⟩ := Y.out.2 2 (by simp)
  obtain ⟨p3, q3⟩ := Y.out.2 3 (by simp)
  have z0 := Y.out.1
  simp at p0 p1 p2 p3
  go_enter Tryd.func34, Tryd.ntmps34
  go_wp2_with fail
  refine bodyPost_ret (v := .agg #[.int .i64 k, .int .i64 0, .slice (some ⟨w.heap.size + 1 + 1, 0, none⟩) lo lo, .slice none 0 0]) (by simp [results, Tryd.results34, go_sem, p0, p1, p2, p3]) rfl ⟨_, rfl, ?_, ?_⟩
  · have hV := (((HV.out.set_far ⟨w.heap.size + 1, 0, none⟩ (.int .i64 k) (by simp)).set_far ⟨w.heap.size + 1, 1, none⟩ (.int .i64 0) (by simp)).set_far ⟨w.heap.size + 1, 2, none⟩ (.slice (some ⟨w.heap.size + 1 + 1, 0, none⟩) lo lo) (by simp)).set_far ⟨w.heap.size + 1, 3, none⟩ (.slice none 0 0) (by simp)
    have := IRow.of_vrow (B := w.heap.size) lo hV (by omega) (by rw [Hnl.out]; omega)
    rw [Hnl.out] at this
    exact this
  · exact (((Hb1.out.setCell (by simp) _).setCell (by simp) _).setCell (by simp) _).setCell (by simp) _
end Go.Proofs.YtfaameimocjaiaaDoor
