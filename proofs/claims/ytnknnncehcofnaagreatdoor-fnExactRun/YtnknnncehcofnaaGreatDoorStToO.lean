/- laws.toState: the state that is handed on is the call's own, and may be written. -/
import Derived.Test.YtnknnncehcofnaaGreatDoorJ16LayW
import Derived.Test.YtnknnncehcofnaaGreatDoorJ47StKeep
import Derived.Test.YtnknnncehcofnaaGreatDoorCopyI
namespace Go.Proofs.YtnknnncehcofnaaGreatDoor
open Go.RowKit

/-- a slice of numbers in a block of its own -/
def ORow (B : Nat) (w : World) (v : Value) (l : List Int) (g : Nat) : Prop := v = .slice (some ⟨g, 0, none⟩) l.length l.length ∧ B ≤ g ∧ VRow w g (ints l) ∧ l.length ≤ 1048576

theorem ORow.below {B g : Nat} {w w' : World} {v : Value} {l : List Int} (h : ORow B w v l g) (hb : Below w.heap.size w w') : ORow B w' v l g := ⟨h.1, h.2.1, h.2.2.1.below hb, h.2.2.2⟩
theorem ORow.lower {B B' g : Nat} {w : World} {v : Value} {l : List Int} (h : ORow B w v l g) (hB : B' ≤ B) : ORow B' w v l g := ⟨h.1, Nat.le_trans hB h.2.1, h.2.2⟩
theorem ORow.set {B g : Nat} {w : World} {v : Value} {l : List Int} (h : ORow B w v l g) {q : Addr} (hq : q.block < B) (u : Value) : ORow B (w.setCell q u) v l g := ⟨h.1, h.2.1, h.2.2.1.set_far _ _ (by have := h.2.1; omega), h.2.2.2⟩
theorem ORow.form {B g : Nat} {w : World} {v : Value} {l : List Int} (h : ORow B w v l g) : ∃ A cap, v = .slice A l.length cap := ⟨_, _, h.1⟩
theorem ORow.irow {B g : Nat} {w : World} {v : Value} {l : List Int} (h : ORow B w v l g) : IRow B w v l := by
  rw [h.1]
  exact IRow.of_vrow _ h.2.2.1 h.2.1 (by have := h.2.2.2; omega)
theorem ORow.room {B g : Nat} {w : World} {v : Value} {l : List Int} {own : Nat → Nat → Tag} {t : Tag} (h : ORow B w v l g) (ho : ∀ j, own g j = t) : Room own B w v 1 t := by
  rw [h.1]
  exact ⟨_, _, _, rfl, Nat.le_refl _, fun j hj => ⟨g, 0, rfl, h.2.1, h.2.2.1.1, by rw [Nat.zero_add, (h.2.2.1.2 j (by rw [ints_length]; omega)).1]; rfl, by rw [Nat.zero_add]; exact (h.2.2.1.2 j (by rw [ints_length]; omega)).2, ho _⟩⟩

theorem toIntsV {B : Nat} (v : Value) (c : List Int) (w : World) (hr : IRow B w v c) (hn : c.length ≤ 1048576) :
    Calls Tryz.prog 60 #[v] w fun e w' => ∃ v', e = .returned v' ∧ ORow w.heap.size w' v' c w.heap.size ∧ Below w.heap.size w w' := by
  refine (toIntsO v c w hr hn).mono ?_
  rintro e w' ⟨rfl, h1, h2, h3, h4⟩
  refine ⟨_, rfl, ⟨rfl, Nat.le_refl _, ⟨h4, fun j hj => ?_⟩, hn⟩, h3⟩
  rw [ints_length] at hj
  obtain ⟨b, off, e, _, _, k⟩ := h1.at j hj
  simp only [Option.some.injEq, Addr.mk.injEq, and_true] at e
  obtain ⟨rfl, rfl⟩ := e
  obtain ⟨A, n, cap, e, _, hr⟩ := h2
  simp only [Value.slice.injEq] at e
  obtain ⟨rfl, rfl, rfl⟩ := e
  obtain ⟨b', off', e, _, _, _, k2, _⟩ := hr j (by omega)
  simp only [Option.some.injEq, Addr.mk.injEq, and_true] at e
  obtain ⟨rfl, rfl⟩ := e
  rw [Nat.zero_add] at k k2
  exact ⟨by rw [k]; simp [ints], k2⟩

set_option maxHeartbeats 1600000 in
theorem toFrameO {B : Nat} (x y : Int) (v u : Value) (l t : List Int) (w : World) (hr : IRow B w v l) (hu : IRow B w u t) (hn : l.length ≤ 1048576) (hm : t.length ≤ 1048576) :
    Calls Tryz.prog 115 #[.agg #[.int .i64 x, .int .i64 y, v, u]] w fun e w' => ∃ v' u' g1 g2, e = .returned (.agg #[.int .i64 x, .int .i64 y, v', u']) ∧ ORow w.heap.size w' v' l g1 ∧ ORow w.heap.size w' u' t g2 ∧ g1 < g2 ∧ Below w.heap.size w w' := by
  have Hr : Hid (IRow B w v l) := hr
  have Hu : Hid (IRow B w u t) := hu
  obtain ⟨A, cap, rfl⟩ := hr.form
  obtain ⟨D, dap, rfl⟩ := hu.form
  clear hr hu
  obtain ⟨x0, x1, x2, x3⟩ := three_rows w #[.int .i64 x, .int .i64 y, .slice A l.length cap, .slice D t.length dap] #[.int .i64 0, .int .i64 0, .slice none 0 0, .slice none 0 0] #[.int .i64 x, .int .i64 y, .slice none 0 0, .slice none 0 0] 157 110 110
  have X0 : Hid (VRow _ w.heap.size _) := x0
  have X1 : Hid (VRow _ (w.heap.size + 1) _) := x1
  have X2 : Hid (VRow _ (w.heap.size + 1 + 1) _) := x2
  have X3 : Hid (Below w.heap.size w _) := x3
  clear x0 x1 x2 x3
  go_enter Tryz.func115, Tryz.ntmps115
  go_wp2_with fail
  refine (toIntsV _ l _ (Hr.out.below X3.out) hn).mono ?_
  rintro e w1 ⟨v', rfl, hi1, hb1⟩
  obtain ⟨g1, hi1⟩ : ∃ g, ORow _ w1 v' l g := ⟨_, hi1⟩
  have hg1w : g1 < w1.heap.size := hi1.2.2.1.1
  have Hi : Hid (ORow (w.heap.size + 1 + 1 + 1) w1 v' l g1) := hi1.lower (by simp)
  obtain ⟨A', cap', rfl⟩ := hi1.form
  have Y0 : Hid (VRow w1 w.heap.size [.int .i64 x, .int .i64 y, .slice A l.length cap, .slice D t.length dap]) := X0.out.below hb1
  have Y1 : Hid (VRow w1 (w.heap.size + 1) [.int .i64 0, .int .i64 0, .slice none 0 0, .slice none 0 0]) := X1.out.below hb1
  have Y2 : Hid (VRow w1 (w.heap.size + 1 + 1) [.int .i64 x, .int .i64 y, .slice none 0 0, .slice none 0 0]) := X2.out.below hb1
  have Hb1 : Hid (Below w.heap.size w w1) := X3.out.trans (hb1.mono X3.out.size)
  clear hi1 hb1 X0 X1 X2 X3
  have Z0 : Hid (VRow (w1.setCell ⟨w.heap.size + 1 + 1, 2, none⟩ (.slice A' l.length cap')) w.heap.size [.int .i64 x, .int .i64 y, .slice A l.length cap, .slice D t.length dap]) := Y0.out.set_far _ _ (by simp; omega)
  have Z1 : Hid (VRow (w1.setCell ⟨w.heap.size + 1 + 1, 2, none⟩ (.slice A' l.length cap')) (w.heap.size + 1) [.int .i64 0, .int .i64 0, .slice none 0 0, .slice none 0 0]) := Y1.out.set_far _ _ (by simp)
  have Z2 : Hid (VRow (w1.setCell ⟨w.heap.size + 1 + 1, 2, none⟩ (.slice A' l.length cap')) (w.heap.size + 1 + 1) [.int .i64 x, .int .i64 y, .slice A' l.length cap', .slice none 0 0]) := Y2.out.set_at 2 _ (by simp)
  have Z3 : Hid (Below w.heap.size w (w1.setCell ⟨w.heap.size + 1 + 1, 2, none⟩ (.slice A' l.length cap'))) := Hb1.out.setCell (by simp; omega) _
  have Zi : Hid (ORow (w.heap.size + 1 + 1 + 1) (w1.setCell ⟨w.heap.size + 1 + 1, 2, none⟩ (.slice A' l.length cap')) (.slice A' l.length cap') l g1) := Hi.out.set (by simp) _
  have d2 := Y2.out.c 2 (by simp)
  have f2 := Y2.out.f 2 (by simp)
  have d0 := Y0.out.c 3 (by simp)
  have b2 := Y2.out.1
  simp at d2 d0
  go_wp2_with fail
  refine (toIntsV _ t _ (Hu.out.below Z3.out) hm).mono ?_
  rintro e w2 ⟨u', rfl, hi2, hb2⟩
  obtain ⟨g2, hi2⟩ : ∃ g, ORow _ w2 u' t g := ⟨_, hi2⟩
  have Hg : Hid (g1 < g2) := by have := hi2.2.1; simp at this; show g1 < g2; omega
  have Hj : Hid (ORow (w.heap.size + 1 + 1 + 1) w2 u' t g2) := hi2.lower (by have := Z2.out.1; omega)
  have Hi2 : Hid (ORow (w.heap.size + 1 + 1 + 1) w2 (.slice A' l.length cap') l g1) := Zi.out.below hb2
  obtain ⟨D', dap', rfl⟩ := hi2.form
  have V1 : Hid (VRow w2 (w.heap.size + 1) [.int .i64 0, .int .i64 0, .slice none 0 0, .slice none 0 0]) := Z1.out.below hb2
  have V2 : Hid (VRow w2 (w.heap.size + 1 + 1) [.int .i64 x, .int .i64 y, .slice A' l.length cap', .slice none 0 0]) := Z2.out.below hb2
  have Hb2 : Hid (Below w.heap.size w w2) := Z3.out.trans (hb2.mono Z3.out.size)
  clear hi2 hb2 d2 f2 d0 b2 Y0 Y1 Y2 Z0 Z1 Z2 Z3 Zi Hb1
  obtain ⟨p0, q0⟩ := V1.out.2 0 (by simp)
  obtain ⟨p1, q1⟩ := V1.out.2 1 (by simp)
  obtain ⟨p2, q2⟩ := V1.out.2 2 (by simp)
  obtain ⟨p3, q3⟩ := V1.out.2 3 (by simp)
  obtain ⟨r0, s0⟩ := V2.out.2 0 (by simp)
  obtain ⟨r1, s1⟩ := V2.out.2 1 (by simp)
  obtain ⟨r2, s2⟩ := V2.out.2 2 (by simp)
  obtain ⟨r3, s3⟩ := V2.out.2 3 (by simp)
  have hz := V2.out.1
  simp at p0 p1 p2 p3 r0 r1 r2 r3
  go_wp2_with fail
  exact bodyPost_ret (v := .agg #[.int .i64 x, .int .i64 y, .slice A' l.length cap', .slice D' t.length dap']) (by simp [results, Tryz.results115, go_sem, p0, p1, p2, p3]) rfl
    ⟨_, _, g1, g2, rfl, (((((Hi2.out.set (by simp) _).set (by simp) _).set (by simp) _).set (by simp) _).set (by simp) _).lower (by omega), (((((Hj.out.set (by simp) _).set (by simp) _).set (by simp) _).set (by simp) _).set (by simp) _).lower (by omega), Hg.out, ((((Hb2.out.setCell (by simp; omega) _).setCell (by simp) _).setCell (by simp) _).setCell (by simp) _).setCell (by simp) _⟩

def ToFTold (p : List FrM) (w w' : World) (e : Ending) : Prop := ∃ own X Y A cap, e = .returned (.slice A p.length cap) ∧ OwnFr own w.heap.size w' (.slice A p.length cap) p X Y ∧ Below w.heap.size w w'

set_option maxRecDepth 100000 in
set_option maxHeartbeats 1600000 in
theorem toFramesO {B : Nat} (v : Value) (p : List FrM) (w : World) (hr : FrRow B w v p) (hn : bulkF p ≤ 1048576) :
    Calls Tryz.prog 58 #[v] w fun e w' => ToFTold p w w' e := by
  have hl : p.length ≤ 1048576 := by unfold bulkF at hn; omega
  obtain ⟨i0, hi, hz0, hz1, hz2⟩ := info_parts Tryz.infoFrame
  have hmk := fun (W : World) => run_makeSlice (P := Tryz.prog) W 43 110 i0 _ Tryz.underlying43 hi hz0 .i64 .i64 p.length p.length (by omega) (by omega) (by rw [hz1]; simp; omega) (by rw [hz2]; omega) (by omega)
  simp only [hz1, Int.toNat_natCast] at hmk
  have Hr : Hid (FrRow B w v p) := hr
  obtain ⟨A, cap, rfl⟩ := hr.form
  clear hr
  go_enter Tryz.func58, Tryz.ntmps58
  go_wp2
  clear hmk
  go_loopw [4] (fun i wr => ∃ k : Nat, k ≤ p.length ∧ i = .int .i64 k ∧ Slots wr w.heap.size (p.length * 4) ∧ Below w.heap.size w wr ∧
      ∃ (own : Nat → Nat → Tag) (X Y : Nat → Value), ∀ j (h : j < p.length), j < k → (wr.cell? ⟨w.heap.size, j * 4, none⟩ = some (.int .i64 p[j].func) ∧ wr.cell? ⟨w.heap.size, j * 4 + 1, none⟩ = some (.int .i64 p[j].pc) ∧ wr.cell? ⟨w.heap.size, j * 4 + 2, none⟩ = some (X j) ∧ wr.cell? ⟨w.heap.size, j * 4 + 3, none⟩ = some (Y j)) ∧
        (IRow (w.heap.size + 1) wr (X j) p[j].locals ∧ Room own (w.heap.size + 1) wr (X j) 1 (.loc j)) ∧ (IRow (w.heap.size + 1) wr (Y j) p[j].stack ∧ Room own (w.heap.size + 1) wr (Y j) 1 (.stk j)))
    (fun i _ => p.length - (intOf i).toNat)
  case atStart =>
    refine ⟨0, Nat.zero_le _, rfl, ?_, (Below.refl _ _).alloc (Nat.le_refl _) _, fun _ _ => .no, fun _ => .slice none 0 0, fun _ => .slice none 0 0, fun j _ h => by omega⟩
    have := slots_new w (madeCells #[Value.int .i64 0, Value.int .i64 0, Value.slice none 0 0, Value.slice none 0 0] (p.length * 4)) 110
    rwa [size_madeCells] at this
  case round =>
    obtain ⟨k, hk, rfl, hs, hb, own, X, Y, hcs⟩ := hrel
    have Hb : Hid (Below w.heap.size w wr) := hb
    have Hs : Hid (Slots wr w.heap.size (p.length * 4)) := hs
    have Hcs : Hid (∀ j (h : j < p.length), j < k → (wr.cell? ⟨w.heap.size, j * 4, none⟩ = some (.int .i64 p[j].func) ∧ wr.cell? ⟨w.heap.size, j * 4 + 1, none⟩ = some (.int .i64 p[j].pc) ∧ wr.cell? ⟨w.heap.size, j * 4 + 2, none⟩ = some (X j) ∧ wr.cell? ⟨w.heap.size, j * 4 + 3, none⟩ = some (Y j)) ∧
        (IRow (w.heap.size + 1) wr (X j) p[j].locals ∧ Room own (w.heap.size + 1) wr (X j) 1 (.loc j)) ∧ (IRow (w.heap.size + 1) wr (Y j) p[j].stack ∧ Room own (w.heap.size + 1) wr (Y j) 1 (.stk j))) := hcs
    clear hb hs hcs
    by_cases hkl : k < p.length
    · obtain ⟨b, off, x, y, rfl, hlt, c0, c1, c2, c3, hx, hy⟩ := (Hr.out.below Hb.out).at k hkl
      have Hx : Hid (IRow B wr x p[k].locals) := hx
      have Hy : Hid (IRow B wr y p[k].stack) := hy
      have hbk : p[k].locals.length + p[k].stack.length ≤ 1048576 := by have h := sum_le FrM.bulk p k hkl; unfold bulkF at hn; unfold FrM.bulk at h hn; omega
      clear hx hy
      go_wp2_with fail
      refine (toFrameO _ _ x y p[k].locals p[k].stack _ Hx.out Hy.out (by omega) (by omega)).mono ?_
      rintro e w1 ⟨v1, u1, g1, g2, rfl, hi1, hj1, hg12, hb1⟩
      have Hb1 : Hid (Below wr.heap.size wr w1) := hb1
      have Hs1 : Hid (Slots w1 w.heap.size (p.length * 4)) := Hs.out.below hb1
      have hw0 : w.heap.size < w1.heap.size := Hs1.out.1
      have HX : Hid ((IRow (w.heap.size + 1) w1 v1 p[k].locals ∧ Room (fun b j => if b < wr.heap.size then own b j else if b = g1 then .loc k else .stk k) (w.heap.size + 1) w1 v1 1 (.loc k)) ∧ (IRow (w.heap.size + 1) w1 u1 p[k].stack ∧ Room (fun b j => if b < wr.heap.size then own b j else if b = g1 then .loc k else .stk k) (w.heap.size + 1) w1 u1 1 (.stk k))) := by
        have h1 := hi1.2.1
        have h2 := hj1.2.1
        exact ⟨⟨(hi1.lower Hs.out.1).irow, (hi1.lower Hs.out.1).room fun j => by show (if g1 < wr.heap.size then own g1 j else if g1 = g1 then Tag.loc k else .stk k) = _; rw [if_neg (by omega), if_pos rfl]⟩, ⟨(hj1.lower Hs.out.1).irow, (hj1.lower Hs.out.1).room fun j => by show (if g2 < wr.heap.size then own g2 j else if g2 = g1 then Tag.loc k else .stk k) = _; rw [if_neg (by omega), if_neg (by omega)]⟩⟩
      obtain ⟨A1, cap1, rfl⟩ := hi1.form
      obtain ⟨A2, cap2, rfl⟩ := hj1.form
      obtain ⟨⟨z0, hz0⟩, f0⟩ := Hs1.out.2 (k * 4) (by omega)
      obtain ⟨⟨z1, hz1⟩, f1⟩ := Hs1.out.2 (k * 4 + 1) (by omega)
      obtain ⟨⟨z2, hz2⟩, f2⟩ := Hs1.out.2 (k * 4 + 2) (by omega)
      obtain ⟨⟨z3, hz3⟩, f3⟩ := Hs1.out.2 (k * 4 + 3) (by omega)
      clear hb1 c0 c1 c2 c3 hi1 hj1 hg12
      go_wp2_with fail
      go_roundw
      case rel =>
        refine ⟨k + 1, by omega, by go_num, (((Hs1.out.set _ _).set _ _).set _ _).set _ _, ((((Hb.out.trans (Hb1.out.mono Hb.out.size)).setCell (by simp) _).setCell (by simp) _).setCell (by simp) _).setCell (by simp) _, fun b j => if b < wr.heap.size then own b j else if b = g1 then .loc k else .stk k, fun j => if j = k then .slice A1 p[k].locals.length cap1 else X j, fun j => if j = k then .slice A2 p[k].stack.length cap2 else Y j, ?_⟩
        intro j hj hjk
        by_cases he : j = k
        · subst he
          simp only [if_true]
          refine ⟨⟨by rw [cell_set_far _ _ _ _ _ (by omega), cell_set_far _ _ _ _ _ (by omega), cell_set_far _ _ _ _ _ (by omega), cell_set_at Hs1.out (by omega)], by rw [cell_set_far _ _ _ _ _ (by omega), cell_set_far _ _ _ _ _ (by omega), cell_set_at (Hs1.out.set _ _) (by omega)],
            by rw [cell_set_far _ _ _ _ _ (by omega), cell_set_at ((Hs1.out.set _ _).set _ _) (by omega)], cell_set_at (((Hs1.out.set _ _).set _ _).set _ _) (by omega) _⟩, ⟨?_, ?_⟩, ⟨?_, ?_⟩⟩
          · iterate 4 (refine IRow.set ?_ (by simp) _)
            exact HX.out.1.1
          · iterate 4 (refine Room.setLow ?_ (by simp) _)
            exact HX.out.1.2
          · iterate 4 (refine IRow.set ?_ (by simp) _)
            exact HX.out.2.1
          · iterate 4 (refine Room.setLow ?_ (by simp) _)
            exact HX.out.2.2
        · simp only [if_neg he]
          obtain ⟨⟨h0, h1, h2, h3⟩, ⟨h4, h5⟩, h6, h7⟩ := Hcs.out j hj (by omega)
          refine ⟨⟨?_, ?_, ?_, ?_⟩, ⟨?_, ?_⟩, ⟨?_, ?_⟩⟩
          · rw [cell_set_far _ _ _ _ _ (by omega), cell_set_far _ _ _ _ _ (by omega), cell_set_far _ _ _ _ _ (by omega), cell_set_far _ _ _ _ _ (by omega), Hb1.out.cell (by exact Hs.out.1)]; exact h0
          · rw [cell_set_far _ _ _ _ _ (by omega), cell_set_far _ _ _ _ _ (by omega), cell_set_far _ _ _ _ _ (by omega), cell_set_far _ _ _ _ _ (by omega), Hb1.out.cell (by exact Hs.out.1)]; exact h1
          · rw [cell_set_far _ _ _ _ _ (by omega), cell_set_far _ _ _ _ _ (by omega), cell_set_far _ _ _ _ _ (by omega), cell_set_far _ _ _ _ _ (by omega), Hb1.out.cell (by exact Hs.out.1)]; exact h2
          · rw [cell_set_far _ _ _ _ _ (by omega), cell_set_far _ _ _ _ _ (by omega), cell_set_far _ _ _ _ _ (by omega), cell_set_far _ _ _ _ _ (by omega), Hb1.out.cell (by exact Hs.out.1)]; exact h3
          · iterate 4 (refine IRow.set ?_ (by simp) _)
            exact h4.below Hb1.out
          · iterate 4 (refine Room.setLow ?_ (by simp) _)
            exact (h5.ext (fun b i _ hb => if_pos hb)).below Hb1.out
          · iterate 4 (refine IRow.set ?_ (by simp) _)
            exact h6.below Hb1.out
          · iterate 4 (refine Room.setLow ?_ (by simp) _)
            exact (h7.ext (fun b i _ hb => if_pos hb)).below Hb1.out
      case measure => simp [intOf]; omega
    · have hke : k = p.length := by omega
      subst hke
      go_wp2
      go_ret
      refine ⟨fun b j => if b = w.heap.size then .fr else own b j, X, Y, _, p.length, rfl, ⟨hl, ⟨_, _, rfl⟩, ⟨_, _, _, rfl, Nat.le_refl _, fun j hj => ⟨w.heap.size, 0, rfl, Nat.le_refl _, Hs.out.1, ?_, ?_, if_pos rfl⟩⟩, fun i hi => ⟨w.heap.size, 0, _, rfl, ?_⟩, fun i hi => ⟨(Hcs.out i hi hi).2.1.1.lower (by omega), ((Hcs.out i hi hi).2.1.2.ext (fun b j hb _ => if_neg (by omega))).lower (by omega)⟩, fun i hi => ⟨(Hcs.out i hi hi).2.2.1.lower (by omega), ((Hcs.out i hi hi).2.2.2.ext (fun b j hb _ => if_neg (by omega))).lower (by omega)⟩⟩, Hb.out⟩
      · obtain ⟨z, hz⟩ := (Hs.out.2 j (by omega)).1
        rw [Nat.zero_add, hz]; rfl
      · rw [Nat.zero_add]; exact (Hs.out.2 j (by omega)).2
      · rw [Nat.zero_add]; exact (Hcs.out i hi hi).1

def ToATold (hs : List (List Int)) (w w' : World) (e : Ending) : Prop := ∃ own Z A cap, e = .returned (.slice A hs.length cap) ∧ OwnAr own w.heap.size w' (.slice A hs.length cap) hs Z ∧ Below w.heap.size w w'

set_option maxRecDepth 100000 in
set_option maxHeartbeats 1600000 in
theorem toArrsO {B : Nat} (v : Value) (hs : List (List Int)) (w : World) (hr : ArrRow B w v hs) (hn : bulkH hs ≤ 1048576) :
    Calls Tryz.prog 59 #[v] w fun e w' => ToATold hs w w' e := by
  have hl : hs.length ≤ 1048576 := by unfold bulkH at hn; omega
  obtain ⟨i0, hi, hz0, hz1, hz2⟩ := info_parts Tryz.infoInts
  have hmk := fun (W : World) => run_makeSlice (P := Tryz.prog) W 38 28 i0 _ Tryz.underlying38 hi hz0 .i64 .i64 hs.length hs.length (by omega) (by omega) (by rw [hz1]; simp; omega) (by rw [hz2]; omega) (by omega)
  simp only [hz1, Int.toNat_natCast, Nat.mul_one] at hmk
  have Hr : Hid (ArrRow B w v hs) := hr
  obtain ⟨A, cap, rfl⟩ := hr.form
  clear hr
  go_enter Tryz.func59, Tryz.ntmps59
  go_wp2
  clear hmk
  go_loopg [4] (hs.length) (fun g i wr => ∃ k : Nat, k ≤ hs.length ∧ i = .int .i64 k ∧ hs.length ≤ k + g ∧ Slots wr w.heap.size hs.length ∧ Below w.heap.size w wr ∧ ∃ (own : Nat → Nat → Tag) (Z : Nat → Value), ∀ j (h : j < hs.length), j < k → wr.cell? ⟨w.heap.size, j, none⟩ = some (Z j) ∧ IRow (w.heap.size + 1) wr (Z j) hs[j] ∧ Room own (w.heap.size + 1) wr (Z j) 1 (.arr j))
  case atStart =>
    refine ⟨0, Nat.zero_le _, rfl, by omega, ?_, (Below.refl _ _).alloc (Nat.le_refl _) _, fun _ _ => .no, fun _ => .slice none 0 0, fun j _ h => by omega⟩
    have := slots_new w (madeCells #[Value.slice none 0 0] hs.length) 28
    rwa [size_madeCells] at this
  case round =>
    obtain ⟨k, hk, rfl, hkg, hsl, hb, own, Z, hcs⟩ := hrel
    have Hb : Hid (Below w.heap.size w wr) := hb
    have Hs : Hid (Slots wr w.heap.size hs.length) := hsl
    have Hcs : Hid (∀ j (h : j < hs.length), j < k → wr.cell? ⟨w.heap.size, j, none⟩ = some (Z j) ∧ IRow (w.heap.size + 1) wr (Z j) hs[j] ∧ Room own (w.heap.size + 1) wr (Z j) 1 (.arr j)) := hcs
    clear hsl hb hcs
    by_cases hkl : k < hs.length
    · obtain ⟨b, off, x, rfl, hlt, c0, hx⟩ := (Hr.out.below Hb.out).at k hkl
      have Hx : Hid (IRow B wr x hs[k]) := hx
      have hbk : hs[k].length ≤ 1048576 := by have h := sum_le List.length hs k hkl; unfold bulkH at hn; omega
      obtain ⟨Ax, cx, rfl⟩ := hx.form
      have hC := toIntsV (.slice Ax hs[k].length cx) hs[k] wr Hx.out hbk
      have HC : Hid (Calls Tryz.prog 60 #[.slice Ax hs[k].length cx] wr fun e w' => ∃ v', e = .returned v' ∧ ORow wr.heap.size w' v' hs[k] wr.heap.size ∧ Below wr.heap.size wr w') := hC
      clear hx hC
      go_wp2_with fail
      refine Calls.mono (R := fun e w' => ∃ v', e = .returned v' ∧ ORow wr.heap.size w' v' hs[k] wr.heap.size ∧ Below wr.heap.size wr w') HC.out ?_
      rintro e w1 ⟨v1, rfl, hown, hb1⟩
      have hi1 : IRow wr.heap.size w1 v1 hs[k] := hown.irow
      have hr1 : Room (fun b j => if b < wr.heap.size then own b j else .arr k) wr.heap.size w1 v1 1 (.arr k) := hown.room (fun j => by show (if wr.heap.size < wr.heap.size then own wr.heap.size j else Tag.arr k) = _; rw [if_neg (by omega)])
      have Hi1 : Hid (IRow (w.heap.size + 1) w1 v1 hs[k]) := hi1.lower Hs.out.1
      have Hr1 : Hid (Room (fun b j => if b < wr.heap.size then own b j else .arr k) (w.heap.size + 1) w1 v1 1 (.arr k)) := hr1.lower Hs.out.1
      have Hb1 : Hid (Below wr.heap.size wr w1) := hb1
      have Hs1 : Hid (Slots w1 w.heap.size hs.length) := Hs.out.below hb1
      have hw0 : w.heap.size < w1.heap.size := Hs1.out.1
      obtain ⟨⟨z0, hz0⟩, f0⟩ := Hs1.out.2 k hkl
      obtain ⟨A1, c1, rfl⟩ := hi1.form
      clear hown hb1 hi1 hr1 HC c0
      go_wp2_with fail
      go_roundg (gk - 1)
      case measure => omega
      case rel =>
        refine ⟨k + 1, by omega, by go_num, by omega, Hs1.out.set _ _, (Hb.out.trans (Hb1.out.mono Hb.out.size)).setCell (by simp) _, fun b j => if b < wr.heap.size then own b j else .arr k, fun j => if j = k then .slice A1 hs[k].length c1 else Z j, fun j hj hjk => ?_⟩
        by_cases he : j = k
        · subst he
          simp only [if_true]
          exact ⟨cell_set_at Hs1.out hj _, Hi1.out.set (by simp) _, Hr1.out.setLow (by simp) _⟩
        · simp only [if_neg he]
          obtain ⟨h1, h2, h3⟩ := Hcs.out j hj (by omega)
          refine ⟨by rw [cell_set_far _ _ _ _ _ (by omega), Hb1.out.cell (by exact Hs.out.1)]; exact h1, (h2.below Hb1.out).set (by simp) _, ((h3.ext (fun b i _ hb => if_pos hb)).below Hb1.out).setLow (by simp) _⟩
    · have hke : k = hs.length := by omega
      subst hke
      go_wp2_with fail
      go_ret
      refine ⟨fun b j => if b = w.heap.size then .hp else own b j, Z, _, hs.length, rfl, ⟨hl, ⟨_, _, rfl⟩, ⟨_, _, _, rfl, Nat.le_refl _, fun j hj => ⟨w.heap.size, 0, rfl, Nat.le_refl _, Hs.out.1, ?_, ?_, if_pos rfl⟩⟩, fun i hi => ⟨w.heap.size, 0, _, rfl, by rw [Nat.zero_add]; exact (Hcs.out i hi hi).1⟩, fun i hi => ⟨(Hcs.out i hi hi).2.1.lower (by omega), ((Hcs.out i hi hi).2.2.ext (fun b j hb _ => if_neg (by omega))).lower (by omega)⟩⟩, Hb.out⟩
      · obtain ⟨z, hz⟩ := (Hs.out.2 j (by omega)).1
        rw [Nat.zero_add, hz]; rfl
      · rw [Nat.zero_add]; exact (Hs.out.2 j (by omega)).2
def ToSTold (s : StM) (w w' : World) (e : Ending) : Prop := ∃ x y z own X Y Z, e = .returned (stV x y z s) ∧ OwnSt own w.heap.size w' x y z s X Y Z ∧ Below w.heap.size w w'

set_option maxRecDepth 100000 in
set_option maxHeartbeats 3200000 in
theorem toStateO {B : Nat} (x y z : Value) (s : StM) (w : World) (hr : StRow B w x y z s) (hn : s.bulk ≤ 1048576) :
    Calls Tryz.prog 17 #[stV x y z s] w fun e w' => ToSTold s w w' e := by
  obtain ⟨hx, hy, hz⟩ := hr
  have Hx : Hid (FrRow B w x s.frames) := hx
  have Hy : Hid (ArrRow B w y s.heap) := hy
  have Hz : Hid (IRow B w z s.out) := hz
  obtain ⟨A, ca, rfl⟩ := hx.form
  obtain ⟨D, cd, rfl⟩ := hy.form
  obtain ⟨E, ce, rfl⟩ := hz.form
  clear hx hy hz
  unfold stV
  unfold StM.bulk at hn
  obtain ⟨x0, x1, x2, x3⟩ := three_rows w #[.slice A s.frames.length ca, .slice D s.heap.length cd, .slice E s.out.length ce, .int .i64 s.fuel, .bool s.done, .int .i64 s.value, .int .i64 s.trap]
    #[.slice none 0 0, .slice none 0 0, .slice none 0 0, .int .i64 0, .bool false, .int .i64 0, .int .i64 0] #[.slice none 0 0, .slice none 0 0, .slice none 0 0, .int .i64 0, .bool false, .int .i64 0, .int .i64 0] 40 45 45
  have X0 : Hid (VRow _ w.heap.size _) := x0
  have X1 : Hid (VRow _ (w.heap.size + 1) _) := x1
  have X2 : Hid (VRow _ (w.heap.size + 1 + 1) _) := x2
  have X3 : Hid (Below w.heap.size w _) := x3
  clear x0 x1 x2 x3
  go_enter Tryz.func17, Tryz.ntmps17
  go_wp2_with fail
  refine Calls.mono (R := fun e w' => ToFTold s.frames _ w' e) (toFramesO _ s.frames _ (Hx.out.below X3.out) (by omega)) ?_
  rintro e w1 ⟨ownF, X, Y, A', ca', rfl, hi1, hb1⟩
  have Hi : Hid (OwnFr ownF (w.heap.size + 1 + 1 + 1) w1 _ s.frames X Y) := hi1.lower (by simp)
  have Y0 : Hid (VRow w1 w.heap.size [.slice A s.frames.length ca, .slice D s.heap.length cd, .slice E s.out.length ce, .int .i64 s.fuel, .bool s.done, .int .i64 s.value, .int .i64 s.trap]) := X0.out.below hb1
  have Y1 : Hid (VRow w1 (w.heap.size + 1) [.slice none 0 0, .slice none 0 0, .slice none 0 0, .int .i64 0, .bool false, .int .i64 0, .int .i64 0]) := X1.out.below hb1
  have Y2 : Hid (VRow w1 (w.heap.size + 1 + 1) [.slice none 0 0, .slice none 0 0, .slice none 0 0, .int .i64 0, .bool false, .int .i64 0, .int .i64 0]) := X2.out.below hb1
  have Hb1 : Hid (Below w.heap.size w w1) := X3.out.trans (hb1.mono X3.out.size)
  clear hi1 hb1 X0 X1 X2 X3
  obtain ⟨wa, hwa⟩ : ∃ wa, wa = w1.setCell ⟨w.heap.size + 1 + 1, 0, none⟩ (.slice A' s.frames.length ca') := ⟨_, rfl⟩
  have Za : Hid (VRow wa w.heap.size [.slice A s.frames.length ca, .slice D s.heap.length cd, .slice E s.out.length ce, .int .i64 s.fuel, .bool s.done, .int .i64 s.value, .int .i64 s.trap]) := by rw [hwa]; exact Y0.out.set_far _ _ (by simp; omega)
  have Zb : Hid (VRow wa (w.heap.size + 1) [.slice none 0 0, .slice none 0 0, .slice none 0 0, .int .i64 0, .bool false, .int .i64 0, .int .i64 0]) := by rw [hwa]; exact Y1.out.set_far _ _ (by simp)
  have Zc : Hid (VRow wa (w.heap.size + 1 + 1) [.slice A' s.frames.length ca', .slice none 0 0, .slice none 0 0, .int .i64 0, .bool false, .int .i64 0, .int .i64 0]) := by rw [hwa]; exact Y2.out.set_at 0 _ (by simp)
  have Zd : Hid (Below w.heap.size w wa) := by rw [hwa]; exact Hb1.out.setCell (by simp; omega) _
  have Ze : Hid (OwnFr ownF (w.heap.size + 1 + 1 + 1) wa (.slice A' s.frames.length ca') s.frames X Y) := by rw [hwa]; exact Hi.out.setLow (by simp) _
  have d2 := Y2.out.c 0 (by simp)
  have f2 := Y2.out.f 0 (by simp)
  have d0 := Y0.out.c 1 (by simp)
  have b2 := Y2.out.1
  simp at d2 d0
  go_wp2_with fail
  try rw [← hwa]
  refine Calls.mono (R := fun e w' => ToATold s.heap wa w' e) (toArrsO _ s.heap _ (Hy.out.below Zd.out) (by omega)) ?_
  rintro e w2 ⟨ownA, Z, D', cd', rfl, hi2, hb2⟩
  have Hj : Hid (OwnAr (fun b j => if b < wa.heap.size then ownF b j else ownA b j) (w.heap.size + 1 + 1 + 1) w2 _ s.heap Z) := (hi2.ext (fun b j hb _ => if_neg (by omega))).lower (by have := Zc.out.1; omega)
  have Hi2 : Hid (OwnFr (fun b j => if b < wa.heap.size then ownF b j else ownA b j) (w.heap.size + 1 + 1 + 1) w2 (.slice A' s.frames.length ca') s.frames X Y) := (Ze.out.ext (fun b j _ hb => if_pos hb)).below hb2
  obtain ⟨ownB, hownB⟩ : ∃ o, (fun b j => if b < wa.heap.size then ownF b j else ownA b j) = o := ⟨_, rfl⟩
  rw [hownB] at Hj Hi2
  have V0 : Hid (VRow w2 w.heap.size [.slice A s.frames.length ca, .slice D s.heap.length cd, .slice E s.out.length ce, .int .i64 s.fuel, .bool s.done, .int .i64 s.value, .int .i64 s.trap]) := Za.out.below hb2
  have V1 : Hid (VRow w2 (w.heap.size + 1) [.slice none 0 0, .slice none 0 0, .slice none 0 0, .int .i64 0, .bool false, .int .i64 0, .int .i64 0]) := Zb.out.below hb2
  have V2 : Hid (VRow w2 (w.heap.size + 1 + 1) [.slice A' s.frames.length ca', .slice none 0 0, .slice none 0 0, .int .i64 0, .bool false, .int .i64 0, .int .i64 0]) := Zc.out.below hb2
  have Hb2 : Hid (Below w.heap.size w w2) := Zd.out.trans (hb2.mono Zd.out.size)
  clear hi2 hb2 d2 f2 d0 b2 Y0 Y1 Y2 Za Zb Zc Zd Ze Hb1 Hi hwa
  obtain ⟨wb, hwb⟩ : ∃ wb, wb = w2.setCell ⟨w.heap.size + 1 + 1, 1, none⟩ (.slice D' s.heap.length cd') := ⟨_, rfl⟩
  have Za : Hid (VRow wb w.heap.size [.slice A s.frames.length ca, .slice D s.heap.length cd, .slice E s.out.length ce, .int .i64 s.fuel, .bool s.done, .int .i64 s.value, .int .i64 s.trap]) := by rw [hwb]; exact V0.out.set_far _ _ (by simp; omega)
  have Zb : Hid (VRow wb (w.heap.size + 1) [.slice none 0 0, .slice none 0 0, .slice none 0 0, .int .i64 0, .bool false, .int .i64 0, .int .i64 0]) := by rw [hwb]; exact V1.out.set_far _ _ (by simp)
  have Zc : Hid (VRow wb (w.heap.size + 1 + 1) [.slice A' s.frames.length ca', .slice D' s.heap.length cd', .slice none 0 0, .int .i64 0, .bool false, .int .i64 0, .int .i64 0]) := by rw [hwb]; exact V2.out.set_at 1 _ (by simp)
  have Zd : Hid (Below w.heap.size w wb) := by rw [hwb]; exact Hb2.out.setCell (by simp; omega) _
  have Ze : Hid (OwnFr ownB (w.heap.size + 1 + 1 + 1) wb (.slice A' s.frames.length ca') s.frames X Y) := by rw [hwb]; exact Hi2.out.setLow (by simp) _
  have Zf : Hid (OwnAr ownB (w.heap.size + 1 + 1 + 1) wb (.slice D' s.heap.length cd') s.heap Z) := by rw [hwb]; exact Hj.out.setLow (by simp) _
  have d2 := V2.out.c 1 (by simp)
  have f2 := V2.out.f 1 (by simp)
  have d0 := V0.out.c 2 (by simp)
  have b2 := V2.out.1
  simp at d2 d0
  go_wp2_with fail
  try rw [← hwb]
  refine (toIntsV _ s.out _ (Hz.out.below Zd.out) (by omega)).mono ?_
  rintro e w3 ⟨z', rfl, hi3, hb3⟩
  have Hk3 : Hid (IRow (w.heap.size + 1 + 1 + 1) w3 z' s.out ∧ Room (fun b j => if b < wb.heap.size then ownB b j else .out) (w.heap.size + 1 + 1 + 1) w3 z' 1 .out) := ⟨(hi3.lower (by have := Zc.out.1; omega)).irow, (hi3.lower (by have := Zc.out.1; omega)).room (fun j => if_neg (by omega))⟩
  have Hi3 : Hid (OwnFr (fun b j => if b < wb.heap.size then ownB b j else .out) (w.heap.size + 1 + 1 + 1) w3 (.slice A' s.frames.length ca') s.frames X Y) := (Ze.out.ext (fun b j _ hb => if_pos hb)).below hb3
  have Hj3 : Hid (OwnAr (fun b j => if b < wb.heap.size then ownB b j else .out) (w.heap.size + 1 + 1 + 1) w3 (.slice D' s.heap.length cd') s.heap Z) := (Zf.out.ext (fun b j _ hb => if_pos hb)).below hb3
  obtain ⟨E', ce', rfl⟩ := hi3.form
  have V0' : Hid (VRow w3 w.heap.size [.slice A s.frames.length ca, .slice D s.heap.length cd, .slice E s.out.length ce, .int .i64 s.fuel, .bool s.done, .int .i64 s.value, .int .i64 s.trap]) := Za.out.below hb3
  have V1' : Hid (VRow w3 (w.heap.size + 1) [.slice none 0 0, .slice none 0 0, .slice none 0 0, .int .i64 0, .bool false, .int .i64 0, .int .i64 0]) := Zb.out.below hb3
  have V2' : Hid (VRow w3 (w.heap.size + 1 + 1) [.slice A' s.frames.length ca', .slice D' s.heap.length cd', .slice none 0 0, .int .i64 0, .bool false, .int .i64 0, .int .i64 0]) := Zc.out.below hb3
  have Hb3 : Hid (Below w.heap.size w w3) := Zd.out.trans (hb3.mono Zd.out.size)
  clear hi3 hb3 d2 f2 d0 b2 V0 V1 V2 Za Zb Zc Zd Ze Zf Hb2 Hi2 Hj hwb
  obtain ⟨p0, q0⟩ := V1'.out.2 0 (by simp)
  obtain ⟨p1, q1⟩ := V1'.out.2 1 (by simp)
  obtain ⟨p2, q2⟩ := V1'.out.2 2 (by simp)
  obtain ⟨p3, q3⟩ := V1'.out.2 3 (by simp)
  obtain ⟨p4, q4⟩ := V1'.out.2 4 (by simp)
  obtain ⟨p5, q5⟩ := V1'.out.2 5 (by simp)
  obtain ⟨p6, q6⟩ := V1'.out.2 6 (by simp)
  obtain ⟨r0, s0⟩ := V2'.out.2 0 (by simp)
  obtain ⟨r1, s1⟩ := V2'.out.2 1 (by simp)
  obtain ⟨r2, s2⟩ := V2'.out.2 2 (by simp)
  obtain ⟨r3, s3⟩ := V2'.out.2 3 (by simp)
  obtain ⟨r4, s4⟩ := V2'.out.2 4 (by simp)
  obtain ⟨r5, s5⟩ := V2'.out.2 5 (by simp)
  obtain ⟨r6, s6⟩ := V2'.out.2 6 (by simp)
  have k3 := V0'.out.c 3 (by simp)
  have k4 := V0'.out.c 4 (by simp)
  have k5 := V0'.out.c 5 (by simp)
  have k6 := V0'.out.c 6 (by simp)
  have hz := V2'.out.1
  simp at p0 p1 p2 p3 p4 p5 p6 r0 r1 r2 r3 r4 r5 r6 k3 k4 k5 k6
  go_wp2_with fail
  refine bodyPost_ret (v := .agg #[.slice A' s.frames.length ca', .slice D' s.heap.length cd', .slice E' s.out.length ce', .int .i64 s.fuel, .bool s.done, .int .i64 s.value, .int .i64 s.trap]) (by simp [results, Tryz.results17, go_sem, p0, p1, p2, p3, p4, p5, p6]) rfl
    ⟨_, _, _, fun b j => if b < wb.heap.size then ownB b j else .out, X, Y, Z, rfl, ⟨?_, ?_, ?_, ?_⟩, ?_⟩
  · refine OwnFr.lower (B := w.heap.size + 1 + 1 + 1) ?_ (by omega)
    iterate 12 (refine OwnFr.setLow ?_ (by simp) _)
    exact Hi3.out
  · refine OwnAr.lower (B := w.heap.size + 1 + 1 + 1) ?_ (by omega)
    iterate 12 (refine OwnAr.setLow ?_ (by simp) _)
    exact Hj3.out
  · refine IRow.lower (B := w.heap.size + 1 + 1 + 1) ?_ (by omega)
    iterate 12 (refine IRow.set ?_ (by simp) _)
    exact Hk3.out.1
  · refine Room.lower (B := w.heap.size + 1 + 1 + 1) ?_ (by omega)
    iterate 12 (refine Room.setLow ?_ (by simp) _)
    exact Hk3.out.2
  · iterate 12 (refine Below.setCell ?_ (by simp; try omega) _)
    exact Hb3.out
end Go.Proofs.YtnknnncehcofnaaGreatDoor
