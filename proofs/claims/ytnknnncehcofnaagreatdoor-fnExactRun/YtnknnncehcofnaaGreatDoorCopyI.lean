/- impl.copyState. -/
import Derived.Test.YtnknnncehcofnaaGreatDoorJ17CopyN
namespace Go.Proofs.YtnknnncehcofnaaGreatDoor
open Go.RowKit

theorem layRow_length (l st : List Int) : (layRow l.length l st).length = l.length + max 8 st.length := by simp [layRow]; omega

/-- the two lists of a frame that was just laid -/
theorem lay_rows {own : Nat → Nat → Tag} {B g k : Nat} {w : World} {l st : List Int} (hV : VRow w g (ints (layRow l.length l st))) (hB : B ≤ g) (hl : l.length ≤ 1048576) (hs : st.length ≤ 1048576) (ho : ∀ j, own g j = if j < l.length then .loc k else .stk k) :
    (IRow B w (.slice (some ⟨g, 0, none⟩) l.length l.length) l ∧ Room own B w (.slice (some ⟨g, 0, none⟩) l.length l.length) 1 (.loc k)) ∧ (IRow B w (.slice (some ⟨g, l.length, none⟩) st.length (max 8 st.length)) st ∧ Room own B w (.slice (some ⟨g, l.length, none⟩) st.length (max 8 st.length)) 1 (.stk k)) := by
  have hL := layRow_length l st
  have hmx : st.length ≤ max 8 st.length := by omega
  refine ⟨⟨⟨_, _, rfl, by omega, fun j hj => ⟨g, 0, rfl, hB, hV.1, ?_⟩⟩, ⟨_, _, _, rfl, Nat.le_refl _, fun j hj => ⟨g, 0, rfl, hB, hV.1, ?_, ?_, ?_⟩⟩⟩, ⟨⟨_, _, rfl, by omega, fun j hj => ⟨g, l.length, rfl, hB, hV.1, ?_⟩⟩, ⟨_, _, _, rfl, hmx, fun j hj => ⟨g, l.length, rfl, hB, hV.1, ?_, ?_, ?_⟩⟩⟩⟩
  · rw [Nat.zero_add, (hV.2 j (by rw [ints_length, hL]; omega)).1]
    simp [ints, layRow, hj]
  · rw [Nat.zero_add, (hV.2 j (by rw [ints_length, hL]; omega)).1]; rfl
  · rw [Nat.zero_add]; exact (hV.2 j (by rw [ints_length, hL]; omega)).2
  · rw [Nat.zero_add, ho, if_pos (by omega)]
  · rw [(hV.2 (l.length + j) (by rw [ints_length, hL]; omega)).1]
    simp [ints, layRow, hj]
  · rw [(hV.2 (l.length + j) (by rw [ints_length, hL]; omega)).1]; rfl
  · exact (hV.2 (l.length + j) (by rw [ints_length, hL]; omega)).2
  · rw [ho, if_neg (by omega)]

theorem OwnFr.ext {own own' : Nat → Nat → Tag} {B : Nat} {w : World} {x : Value} {fs : List FrM} {X Y : Nat → Value} (h : OwnFr own B w x fs X Y) (ho : ∀ b j, B ≤ b → b < w.heap.size → own' b j = own b j) : OwnFr own' B w x fs X Y :=
  ⟨h.len, h.form, h.room.ext ho, h.head, fun i hi => ⟨(h.loc i hi).1, (h.loc i hi).2.ext ho⟩, fun i hi => ⟨(h.stk i hi).1, (h.stk i hi).2.ext ho⟩⟩
theorem OwnFr.lower {own : Nat → Nat → Tag} {B B' : Nat} {w : World} {x : Value} {fs : List FrM} {X Y : Nat → Value} (h : OwnFr own B w x fs X Y) (hB : B' ≤ B) : OwnFr own B' w x fs X Y :=
  ⟨h.len, h.form, h.room.lower hB, h.head, fun i hi => ⟨(h.loc i hi).1.lower hB, (h.loc i hi).2.lower hB⟩, fun i hi => ⟨(h.stk i hi).1.lower hB, (h.stk i hi).2.lower hB⟩⟩
theorem OwnFr.setLow {own : Nat → Nat → Tag} {B : Nat} {w : World} {x : Value} {fs : List FrM} {X Y : Nat → Value} (h : OwnFr own B w x fs X Y) {q : Addr} (hq : q.block < B) (u : Value) : OwnFr own B (w.setCell q u) x fs X Y := by
  refine ⟨h.len, h.form, h.room.setLow hq u, fun i hi => ?_, fun i hi => ⟨(h.loc i hi).1.set hq u, (h.loc i hi).2.setLow hq u⟩, fun i hi => ⟨(h.stk i hi).1.set hq u, (h.stk i hi).2.setLow hq u⟩⟩
  obtain ⟨b, off, cap, e, h1, _, h3, h4, h5, h6, _⟩ := h.at i hi
  have hc : ∀ j, (w.setCell q u).cell? ⟨b, j, none⟩ = w.cell? ⟨b, j, none⟩ := fun j => World.cell?_setCell_other _ _ _ _ (by intro e; rw [e] at hq; exact absurd h1 (Nat.not_le_of_lt hq))
  exact ⟨b, off, cap, e, by rw [hc]; exact h3, by rw [hc]; exact h4, by rw [hc]; exact h5, by rw [hc]; exact h6⟩
theorem OwnAr.ext {own own' : Nat → Nat → Tag} {B : Nat} {w : World} {y : Value} {hs : List (List Int)} {Z : Nat → Value} (h : OwnAr own B w y hs Z) (ho : ∀ b j, B ≤ b → b < w.heap.size → own' b j = own b j) : OwnAr own' B w y hs Z :=
  ⟨h.len, h.form, h.room.ext ho, h.head, fun i hi => ⟨(h.arr i hi).1, (h.arr i hi).2.ext ho⟩⟩
theorem OwnAr.lower {own : Nat → Nat → Tag} {B B' : Nat} {w : World} {y : Value} {hs : List (List Int)} {Z : Nat → Value} (h : OwnAr own B w y hs Z) (hB : B' ≤ B) : OwnAr own B' w y hs Z :=
  ⟨h.len, h.form, h.room.lower hB, h.head, fun i hi => ⟨(h.arr i hi).1.lower hB, (h.arr i hi).2.lower hB⟩⟩
theorem OwnAr.setLow {own : Nat → Nat → Tag} {B : Nat} {w : World} {y : Value} {hs : List (List Int)} {Z : Nat → Value} (h : OwnAr own B w y hs Z) {q : Addr} (hq : q.block < B) (u : Value) : OwnAr own B (w.setCell q u) y hs Z := by
  refine ⟨h.len, h.form, h.room.setLow hq u, fun i hi => ?_, fun i hi => ⟨(h.arr i hi).1.set hq u, (h.arr i hi).2.setLow hq u⟩⟩
  obtain ⟨b, off, cap, e, h1, _, h3, _⟩ := h.at i hi
  exact ⟨b, off, cap, e, by rw [World.cell?_setCell_other _ _ _ _ (by intro e; rw [e] at hq; exact absurd h1 (Nat.not_le_of_lt hq))]; exact h3⟩

def CopySTold (s : StM) (w w' : World) (e : Ending) : Prop :=
  ∃ A a D d E c own X Y Z, e = .returned (.agg #[.slice A s.frames.length a, .slice D s.heap.length d, .slice E s.out.length c, .int .i64 s.fuel, .bool s.done, .int .i64 s.value, .int .i64 s.trap]) ∧ OwnSt own w.heap.size w' (.slice A s.frames.length a) (.slice D s.heap.length d) (.slice E s.out.length c) s X Y Z ∧ Below w.heap.size w w'

set_option maxRecDepth 100000 in
set_option maxHeartbeats 3200000 in
theorem implCopyS {B : Nat} (x y z : Value) (s : StM) (w : World) (hr : StRow B w x y z s) (hn : s.bulk ≤ 1048576) :
    Calls Tryz.prog 61 #[stV x y z s] w fun e w' => CopySTold s w w' e := by
  have hbf : bulkF s.frames ≤ 1048576 ∧ bulkH s.heap ≤ 1048576 ∧ s.out.length ≤ 1048576 := by unfold StM.bulk at hn; omega
  have hl : s.frames.length ≤ 1048576 := by have := hbf.1; unfold bulkF at this; omega
  have HRs : Hid (StRow B w x y z s) := hr
  obtain ⟨A1, a1, rfl⟩ := hr.1.form
  obtain ⟨A2, a2, rfl⟩ := hr.2.1.form
  obtain ⟨A3, a3, rfl⟩ := hr.2.2.form
  clear hr
  unfold stV
  obtain ⟨i0, hi, hz0, hz1, hz2⟩ := info_parts Tryz.infoFrame
  have hmk := fun (W : World) => run_makeSlice (P := Tryz.prog) W 43 110 i0 _ Tryz.underlying43 hi hz0 .i64 .i64 s.frames.length s.frames.length (by omega) (by omega) (by rw [hz1]; simp; omega) (by rw [hz2]; omega) (by omega)
  simp only [hz1, Int.toNat_natCast] at hmk
  obtain ⟨x0, x1, x2, x3⟩ := three_rows w #[.slice A1 s.frames.length a1, .slice A2 s.heap.length a2, .slice A3 s.out.length a3, .int .i64 s.fuel, .bool s.done, .int .i64 s.value, .int .i64 s.trap] #[.slice none 0 0, .slice none 0 0, .slice none 0 0, .int .i64 0, .bool false, .int .i64 0, .int .i64 0] (madeCells #[Value.int .i64 0, Value.int .i64 0, Value.slice none 0 0, Value.slice none 0 0] (s.frames.length * 4)) 45 45 110
  have X0 : Hid (VRow _ w.heap.size _) := x0
  have X1 : Hid (VRow _ (w.heap.size + 1) _) := x1
  have X3 : Hid (Below w.heap.size w _) := x3
  have hsl : Slots _ (w.heap.size + 1 + 1) (s.frames.length * 4) := slots_new ((w.alloc (.cells #[.slice A1 s.frames.length a1, .slice A2 s.heap.length a2, .slice A3 s.out.length a3, .int .i64 s.fuel, .bool s.done, .int .i64 s.value, .int .i64 s.trap] 45)).alloc (.cells #[.slice none 0 0, .slice none 0 0, .slice none 0 0, .int .i64 0, .bool false, .int .i64 0, .int .i64 0] 45)) (madeCells #[Value.int .i64 0, Value.int .i64 0, Value.slice none 0 0, Value.slice none 0 0] (s.frames.length * 4)) 110 |> fun h => by rw [size_madeCells] at h; simpa using h
  have HSl : Hid (Slots _ (w.heap.size + 1 + 1) (s.frames.length * 4)) := hsl
  clear x0 x1 x2 x3 hsl hi hz0 hz1 hz2
  go_enter Tryz.func61, Tryz.ntmps61
  go_wp2
  clear hmk
  go_loopg [13] (s.frames.length) (fun g i wr => ∃ k : Nat, k ≤ s.frames.length ∧ i = .int .i64 k ∧ s.frames.length ≤ k + g ∧ VRow wr w.heap.size [.slice A1 s.frames.length a1, .slice A2 s.heap.length a2, .slice A3 s.out.length a3, .int .i64 s.fuel, .bool s.done, .int .i64 s.value, .int .i64 s.trap] ∧ VRow wr (w.heap.size + 1) [.slice none 0 0, .slice none 0 0, .slice none 0 0, .int .i64 0, .bool false, .int .i64 0, .int .i64 0] ∧ Slots wr (w.heap.size + 1 + 1) (s.frames.length * 4) ∧ Below w.heap.size w wr ∧
      ∃ (own : Nat → Nat → Tag) (X Y : Nat → Value), ∀ j (h : j < s.frames.length), j < k → (wr.cell? ⟨w.heap.size + 1 + 1, j * 4, none⟩ = some (.int .i64 s.frames[j].func) ∧ wr.cell? ⟨w.heap.size + 1 + 1, j * 4 + 1, none⟩ = some (.int .i64 s.frames[j].pc) ∧ wr.cell? ⟨w.heap.size + 1 + 1, j * 4 + 2, none⟩ = some (X j) ∧ wr.cell? ⟨w.heap.size + 1 + 1, j * 4 + 3, none⟩ = some (Y j)) ∧
        (IRow (w.heap.size + 1 + 1 + 1) wr (X j) s.frames[j].locals ∧ Room own (w.heap.size + 1 + 1 + 1) wr (X j) 1 (.loc j)) ∧ (IRow (w.heap.size + 1 + 1 + 1) wr (Y j) s.frames[j].stack ∧ Room own (w.heap.size + 1 + 1 + 1) wr (Y j) 1 (.stk j)))
  case atStart => exact ⟨0, Nat.zero_le _, rfl, by omega, X0.out, X1.out, HSl.out, X3.out, fun _ _ => .no, fun _ => .slice none 0 0, fun _ => .slice none 0 0, fun j _ h => by omega⟩
  case round =>
    clear X0 X1 X3 HSl
    obtain ⟨k, hk, rfl, hkg, hB0, hB1, hsl, hb, own, X, Y, hcs⟩ := hrel
    have HB0 : Hid (VRow wr w.heap.size [.slice A1 s.frames.length a1, .slice A2 s.heap.length a2, .slice A3 s.out.length a3, .int .i64 s.fuel, .bool s.done, .int .i64 s.value, .int .i64 s.trap]) := hB0
    have HB1 : Hid (VRow wr (w.heap.size + 1) [.slice none 0 0, .slice none 0 0, .slice none 0 0, .int .i64 0, .bool false, .int .i64 0, .int .i64 0]) := hB1
    have Hs : Hid (Slots wr (w.heap.size + 1 + 1) (s.frames.length * 4)) := hsl
    have Hb : Hid (Below w.heap.size w wr) := hb
    have Hcs : Hid (∀ j (h : j < s.frames.length), j < k → (wr.cell? ⟨w.heap.size + 1 + 1, j * 4, none⟩ = some (.int .i64 s.frames[j].func) ∧ wr.cell? ⟨w.heap.size + 1 + 1, j * 4 + 1, none⟩ = some (.int .i64 s.frames[j].pc) ∧ wr.cell? ⟨w.heap.size + 1 + 1, j * 4 + 2, none⟩ = some (X j) ∧ wr.cell? ⟨w.heap.size + 1 + 1, j * 4 + 3, none⟩ = some (Y j)) ∧
        (IRow (w.heap.size + 1 + 1 + 1) wr (X j) s.frames[j].locals ∧ Room own (w.heap.size + 1 + 1 + 1) wr (X j) 1 (.loc j)) ∧ (IRow (w.heap.size + 1 + 1 + 1) wr (Y j) s.frames[j].stack ∧ Room own (w.heap.size + 1 + 1 + 1) wr (Y j) 1 (.stk j))) := hcs
    clear hB0 hB1 hsl hb hcs
    by_cases hkl : k < s.frames.length
    · obtain ⟨b, off, x', y', rfl, hlt, c0, c1, c2, c3, hx, hy⟩ := (HRs.out.1.below Hb.out).at k hkl
      have hbk : s.frames[k].locals.length + s.frames[k].stack.length ≤ 1048576 := by have h := sum_le FrM.bulk s.frames k hkl; have h2 := hbf.1; unfold bulkF at h2; unfold FrM.bulk at h h2; omega
      obtain ⟨Ax, cx, rfl⟩ := hx.form
      obtain ⟨Ay, cy, rfl⟩ := hy.form
      obtain ⟨wf, hwf⟩ : ∃ wf, wf = wr.alloc (.cells #[.int .i64 s.frames[k].func, .int .i64 s.frames[k].pc, .slice Ax s.frames[k].locals.length cx, .slice Ay s.frames[k].stack.length cy] 110) := ⟨_, rfl⟩
      have hal : Below wr.heap.size wr wf := by rw [hwf]; exact (Below.refl _ _).alloc (Nat.le_refl _) _
      have hC := implCopyF s.frames[k] (.slice Ax s.frames[k].locals.length cx) (.slice Ay s.frames[k].stack.length cy) wf (hx.below hal) (hy.below hal) (by omega) (by omega)
      have HC : Hid (Calls Tryz.prog 116 #[.agg #[.int .i64 s.frames[k].func, .int .i64 s.frames[k].pc, .slice Ax s.frames[k].locals.length cx, .slice Ay s.frames[k].stack.length cy]] wf fun e w' => CopyFTold s.frames[k] wf w' e) := hC
      have Hal : Hid (Below wr.heap.size wr wf) := hal
      clear hx hy hC hal
      go_wp2_with fail
      rw [← hwf]
      clear hwf
      refine Calls.mono (R := fun e w' => CopyFTold s.frames[k] wf w' e) HC.out ?_
      rintro e w1 ⟨g, rfl, hg, hV, hb1⟩
      have hb1' : Below wr.heap.size wr w1 := Hal.out.trans (hb1.mono Hal.out.size)
      have hgr : wr.heap.size ≤ g := Nat.le_trans Hal.out.size hg
      obtain ⟨hX, hY⟩ := lay_rows (own := fun b j => if b < wr.heap.size then own b j else if j < s.frames[k].locals.length then .loc k else .stk k) (B := w.heap.size + 1 + 1 + 1) (k := k) hV (Nat.le_trans Hs.out.1 hgr) (by omega) (by omega) (fun j => by show (if g < wr.heap.size then own g j else _) = _; rw [if_neg (by omega)])
      obtain ⟨mx, hmx⟩ : ∃ mx, mx = max 8 s.frames[k].stack.length := ⟨_, rfl⟩
      rw [← hmx] at hY ⊢
      have HXY : Hid ((IRow (w.heap.size + 1 + 1 + 1) w1 (.slice (some ⟨g, 0, none⟩) s.frames[k].locals.length s.frames[k].locals.length) s.frames[k].locals ∧ Room (fun b j => if b < wr.heap.size then own b j else if j < s.frames[k].locals.length then .loc k else .stk k) (w.heap.size + 1 + 1 + 1) w1 (.slice (some ⟨g, 0, none⟩) s.frames[k].locals.length s.frames[k].locals.length) 1 (.loc k)) ∧ (IRow (w.heap.size + 1 + 1 + 1) w1 (.slice (some ⟨g, s.frames[k].locals.length, none⟩) s.frames[k].stack.length mx) s.frames[k].stack ∧ Room (fun b j => if b < wr.heap.size then own b j else if j < s.frames[k].locals.length then .loc k else .stk k) (w.heap.size + 1 + 1 + 1) w1 (.slice (some ⟨g, s.frames[k].locals.length, none⟩) s.frames[k].stack.length mx) 1 (.stk k))) := ⟨hX, hY⟩
      have Hb1 : Hid (Below wr.heap.size wr w1) := hb1'
      have Hs1 : Hid (Slots w1 (w.heap.size + 1 + 1) (s.frames.length * 4)) := Hs.out.below hb1'
      have hw0 : w.heap.size + 1 + 1 < w1.heap.size := Hs1.out.1
      obtain ⟨⟨z0, hz0⟩, f0⟩ := Hs1.out.2 (k * 4) (by omega)
      obtain ⟨⟨z1, hz1⟩, f1⟩ := Hs1.out.2 (k * 4 + 1) (by omega)
      obtain ⟨⟨z2, hz2⟩, f2⟩ := Hs1.out.2 (k * 4 + 2) (by omega)
      obtain ⟨⟨z3, hz3⟩, f3⟩ := Hs1.out.2 (k * 4 + 3) (by omega)
      clear hV hb1 hb1' hX hY hmx HC c0 c1 c2 c3 hg hgr
      go_wp2_with fail
      go_roundg (gk - 1)
      case measure => omega
      case rel =>
        refine ⟨k + 1, by omega, by go_num, by omega, ?_, ?_, (((Hs1.out.set _ _).set _ _).set _ _).set _ _, ((((Hb.out.trans (Hb1.out.mono Hb.out.size)).setCell (by simp; omega) _).setCell (by simp; omega) _).setCell (by simp; omega) _).setCell (by simp; omega) _, fun b j => if b < wr.heap.size then own b j else if j < s.frames[k].locals.length then .loc k else .stk k, fun j => if j = k then .slice (some ⟨g, 0, none⟩) s.frames[k].locals.length s.frames[k].locals.length else X j, fun j => if j = k then .slice (some ⟨g, s.frames[k].locals.length, none⟩) s.frames[k].stack.length mx else Y j, fun j hj hjk => ?_⟩
        · iterate 4 (refine VRow.set_far ?_ _ _ (by simp; omega))
          exact HB0.out.below Hb1.out
        · iterate 4 (refine VRow.set_far ?_ _ _ (by simp))
          exact HB1.out.below Hb1.out
        · by_cases he : j = k
          · subst he
            simp only [if_true]
            refine ⟨⟨by rw [cell_set_far _ _ _ _ _ (by omega), cell_set_far _ _ _ _ _ (by omega), cell_set_far _ _ _ _ _ (by omega), cell_set_at Hs1.out (by omega)], by rw [cell_set_far _ _ _ _ _ (by omega), cell_set_far _ _ _ _ _ (by omega), cell_set_at (Hs1.out.set _ _) (by omega)], by rw [cell_set_far _ _ _ _ _ (by omega), cell_set_at ((Hs1.out.set _ _).set _ _) (by omega)], cell_set_at (((Hs1.out.set _ _).set _ _).set _ _) (by omega) _⟩, ⟨?_, ?_⟩, ⟨?_, ?_⟩⟩
            · iterate 4 (refine IRow.set ?_ (by simp) _)
              exact HXY.out.1.1
            · iterate 4 (refine Room.setLow ?_ (by simp) _)
              exact HXY.out.1.2
            · iterate 4 (refine IRow.set ?_ (by simp) _)
              exact HXY.out.2.1
            · iterate 4 (refine Room.setLow ?_ (by simp) _)
              exact HXY.out.2.2
          · simp only [if_neg he]
            obtain ⟨⟨h0, h1, h2, h3⟩, ⟨h4, h5⟩, h6, h7⟩ := Hcs.out j hj (by omega)
            have hcell : ∀ i, i < 4 → j * 4 + i ≠ k * 4 ∧ j * 4 + i ≠ k * 4 + 1 ∧ j * 4 + i ≠ k * 4 + 2 ∧ j * 4 + i ≠ k * 4 + 3 := fun i hi => by omega
            refine ⟨⟨?_, ?_, ?_, ?_⟩, ⟨?_, ?_⟩, ⟨?_, ?_⟩⟩
            · rw [cell_set_far _ _ _ _ _ (by omega), cell_set_far _ _ _ _ _ (by omega), cell_set_far _ _ _ _ _ (by omega), cell_set_far _ _ _ _ _ (by omega), Hb1.out.cell (by exact Hs.out.1)]; exact h0
            · rw [cell_set_far _ _ _ _ _ (by omega), cell_set_far _ _ _ _ _ (by omega), cell_set_far _ _ _ _ _ (by omega), cell_set_far _ _ _ _ _ (by omega), Hb1.out.cell (by exact Hs.out.1)]; exact h1
            · rw [cell_set_far _ _ _ _ _ (by omega), cell_set_far _ _ _ _ _ (by omega), cell_set_far _ _ _ _ _ (by omega), cell_set_far _ _ _ _ _ (by omega), Hb1.out.cell (by exact Hs.out.1)]; exact h2
            · rw [cell_set_far _ _ _ _ _ (by omega), cell_set_far _ _ _ _ _ (by omega), cell_set_far _ _ _ _ _ (by omega), cell_set_far _ _ _ _ _ (by omega), Hb1.out.cell (by exact Hs.out.1)]; exact h3
            · iterate 4 (refine IRow.set ?_ (by simp) _)
              exact h4.below Hb1.out
            · iterate 4 (refine Room.setLow ?_ (by simp) _)
              exact (h5.ext (fun b i _ hb => if_pos hb)).below Hb1.out
            · iterate 4 (refine IRow.set ?_ (by simp) _)
              exact h6.below Hb1.out
            · iterate 4 (refine Room.setLow ?_ (by simp) _)
              exact (h7.ext (fun b i _ hb => if_pos hb)).below Hb1.out
    · have hke : k = s.frames.length := by omega
      subst hke
      have z0 := HB0.out.1
      obtain ⟨r0, t0⟩ := HB0.out.2 0 (by simp)
      obtain ⟨r1, t1⟩ := HB0.out.2 1 (by simp)
      simp at r0 r1
      have hfr : OwnFr (fun b j => if b = w.heap.size + 1 + 1 then .fr else own b j) (w.heap.size + 1 + 1) wr (.slice (some ⟨w.heap.size + 1 + 1, 0, none⟩) s.frames.length s.frames.length) s.frames X Y := by
        refine ⟨hl, ⟨_, _, rfl⟩, ⟨_, _, _, rfl, Nat.le_refl _, fun j hj => ⟨_, 0, rfl, Nat.le_refl _, Hs.out.1, ?_, ?_, if_pos rfl⟩⟩, fun i hi => ?_, fun i hi => ?_, fun i hi => ?_⟩
        · obtain ⟨z, hz⟩ := (Hs.out.2 j hj).1
          rw [Nat.zero_add, hz]; rfl
        · rw [Nat.zero_add]; exact (Hs.out.2 j hj).2
        · obtain ⟨h0, h1, h2, h3⟩ := (Hcs.out i hi hi).1
          exact ⟨_, 0, _, rfl, by simpa using h0, by simpa using h1, by simpa using h2, by simpa using h3⟩
        · exact ⟨(Hcs.out i hi hi).2.1.1.lower (by omega), ((Hcs.out i hi hi).2.1.2.ext (fun b j hb _ => if_neg (by omega))).lower (by omega)⟩
        · exact ⟨(Hcs.out i hi hi).2.2.1.lower (by omega), ((Hcs.out i hi hi).2.2.2.ext (fun b j hb _ => if_neg (by omega))).lower (by omega)⟩
      obtain ⟨wa, hwa⟩ : ∃ wa, wa = wr.setCell ⟨w.heap.size, 0, none⟩ (.slice (some ⟨w.heap.size + 1 + 1, 0, none⟩) s.frames.length s.frames.length) := ⟨_, rfl⟩
      have Fa : Hid (OwnFr (fun b j => if b = w.heap.size + 1 + 1 then .fr else own b j) (w.heap.size + 1 + 1) wa (.slice (some ⟨w.heap.size + 1 + 1, 0, none⟩) s.frames.length s.frames.length) s.frames X Y) := by rw [hwa]; exact hfr.setLow (by simp; omega) _
      have B0a : Hid (VRow wa w.heap.size [.slice (some ⟨w.heap.size + 1 + 1, 0, none⟩) s.frames.length s.frames.length, .slice A2 s.heap.length a2, .slice A3 s.out.length a3, .int .i64 s.fuel, .bool s.done, .int .i64 s.value, .int .i64 s.trap]) := by rw [hwa]; exact HB0.out.set_at 0 _ (by simp)
      have B1a : Hid (VRow wa (w.heap.size + 1) [.slice none 0 0, .slice none 0 0, .slice none 0 0, .int .i64 0, .bool false, .int .i64 0, .int .i64 0]) := by rw [hwa]; exact HB1.out.set_far _ _ (by simp)
      have Hba : Hid (Below w.heap.size w wa) := by rw [hwa]; exact Hb.out.setCell (by simp) _
      have hza : w.heap.size + 1 + 1 < wa.heap.size := by rw [hwa]; simpa using Hs.out.1
      have hCH := implCopyH (.slice A2 s.heap.length a2) s.heap wa (HRs.out.2.1.below Hba.out) hbf.2.1
      have HCH : Hid (Calls Tryz.prog 117 #[.slice A2 s.heap.length a2] wa fun e w' => CopyHTold s.heap wa w' e) := hCH
      clear hfr hCH Hcs Hs HB0 HB1
      go_wp2_with fail
      rw [← hwa]
      clear hwa r0 r1 t0 t1 z0
      refine Calls.mono (R := fun e w' => CopyHTold s.heap wa w' e) HCH.out ?_
      rintro e w2 ⟨ownH, Z, cH, rfl, hAr, hb2⟩
      obtain ⟨wb, hwb⟩ : ∃ wb, wb = w2.setCell ⟨w.heap.size, 1, none⟩ (.slice (some ⟨wa.heap.size, 0, none⟩) s.heap.length cH) := ⟨_, rfl⟩
      have Fb : Hid (OwnFr (fun b j => if b = w.heap.size + 1 + 1 then .fr else own b j) (w.heap.size + 1 + 1) wb (.slice (some ⟨w.heap.size + 1 + 1, 0, none⟩) s.frames.length s.frames.length) s.frames X Y) := by rw [hwb]; exact (Fa.out.below hb2).setLow (by simp; omega) _
      have Ab : Hid (OwnAr ownH wa.heap.size wb (.slice (some ⟨wa.heap.size, 0, none⟩) s.heap.length cH) s.heap Z) := by rw [hwb]; exact hAr.setLow (by simp; omega) _
      have B0b : Hid (VRow wb w.heap.size [.slice (some ⟨w.heap.size + 1 + 1, 0, none⟩) s.frames.length s.frames.length, .slice (some ⟨wa.heap.size, 0, none⟩) s.heap.length cH, .slice A3 s.out.length a3, .int .i64 s.fuel, .bool s.done, .int .i64 s.value, .int .i64 s.trap]) := by rw [hwb]; exact (B0a.out.below hb2).set_at 1 _ (by simp)
      have B1b : Hid (VRow wb (w.heap.size + 1) [.slice none 0 0, .slice none 0 0, .slice none 0 0, .int .i64 0, .bool false, .int .i64 0, .int .i64 0]) := by rw [hwb]; exact (B1a.out.below hb2).set_far _ _ (by simp)
      have Hbb : Hid (Below w.heap.size w wb) := by rw [hwb]; exact (Hba.out.trans (hb2.mono Hba.out.size)).setCell (by simp) _
      have hsb : wa.heap.size ≤ wb.heap.size := by rw [hwb]; simpa using hb2.size
      have FbX : Hid (OwnFr (fun b j => if b < wa.heap.size then (if b = w.heap.size + 1 + 1 then .fr else own b j) else if b < wb.heap.size then ownH b j else .out) (w.heap.size + 1 + 1) wb (.slice (some ⟨w.heap.size + 1 + 1, 0, none⟩) s.frames.length s.frames.length) s.frames X Y) := by
        rw [hwb]
        refine OwnFr.setLow (OwnFr.below (OwnFr.ext Fa.out ?_) hb2) (by simp; omega) _
        intro b j _ hb; exact if_pos hb
      have AbX : Hid (OwnAr (fun b j => if b < wa.heap.size then (if b = w.heap.size + 1 + 1 then .fr else own b j) else if b < wb.heap.size then ownH b j else .out) wa.heap.size wb (.slice (some ⟨wa.heap.size, 0, none⟩) s.heap.length cH) s.heap Z) :=
        Ab.out.ext (fun b j hb1 hb2 => by show (if b < wa.heap.size then _ else if b < wb.heap.size then ownH b j else Tag.out) = _; rw [if_neg (by omega), if_pos hb2])
      have hCL := cloneNums (.slice A3 s.out.length a3) s.out wb (HRs.out.2.2.below Hbb.out) hbf.2.2
      have HCL : Hid (Calls Tryz.prog 118 #[.slice A3 s.out.length a3] wb fun e w' => NumsTold s.out wb w' e) := hCL
      have z0 : w.heap.size < w2.heap.size := Nat.lt_of_lt_of_le (by omega) hb2.size
      obtain ⟨r1, t1⟩ := (B0a.out.below hb2).2 1 (by simp)
      obtain ⟨r2, t2⟩ := (B0a.out.below hb2).2 2 (by simp)
      simp at r1 r2
      clear hAr hb2 HCH hCL Fa B0a B1a
      go_wp2_with fail
      rw [← hwb]
      clear hwb r1 r2 t1 t2 z0
      refine Calls.mono (R := fun e w' => NumsTold s.out wb w' e) HCL.out ?_
      rintro e w3 ⟨v3, rfl, hown3, hb3⟩
      have hi3 : IRow wb.heap.size w3 v3 s.out := IRow.of_owns hown3 (by omega)
      have hr3 : Room (fun b j => if b < wa.heap.size then (if b = w.heap.size + 1 + 1 then .fr else own b j) else if b < wb.heap.size then ownH b j else .out) wb.heap.size w3 v3 1 .out := Room.of_owns hown3 (fun g hg j => by have := (hown3.lt g hg).1; show (if g < wa.heap.size then _ else if g < wb.heap.size then ownH g j else Tag.out) = _; rw [if_neg (by omega), if_neg (by omega)])
      obtain ⟨A4, a4, rfl⟩ := hi3.form
      have F3 : Hid (OwnFr (fun b j => if b < wa.heap.size then (if b = w.heap.size + 1 + 1 then .fr else own b j) else if b < wb.heap.size then ownH b j else .out) (w.heap.size + 1 + 1) w3 (.slice (some ⟨w.heap.size + 1 + 1, 0, none⟩) s.frames.length s.frames.length) s.frames X Y) := FbX.out.below hb3
      have A3' : Hid (OwnAr (fun b j => if b < wa.heap.size then (if b = w.heap.size + 1 + 1 then .fr else own b j) else if b < wb.heap.size then ownH b j else .out) wa.heap.size w3 (.slice (some ⟨wa.heap.size, 0, none⟩) s.heap.length cH) s.heap Z) := AbX.out.below hb3
      have HI3 : Hid (IRow wb.heap.size w3 (.slice A4 s.out.length a4) s.out ∧ Room (fun b j => if b < wa.heap.size then (if b = w.heap.size + 1 + 1 then .fr else own b j) else if b < wb.heap.size then ownH b j else .out) wb.heap.size w3 (.slice A4 s.out.length a4) 1 .out) := ⟨hi3, hr3⟩
      have B03 := B0b.out.below hb3
      have B13 := B1b.out.below hb3
      have Hb3 : Hid (Below w.heap.size w w3) := Hbb.out.trans (hb3.mono Hbb.out.size)
      have hz3 : Hid (w.heap.size + 1 + 1 < wa.heap.size ∧ wa.heap.size ≤ wb.heap.size) := ⟨hza, hsb⟩
      have z0 := B03.1
      have z1 := B13.1
      obtain ⟨r0, t0⟩ := B03.2 0 (by simp)
      obtain ⟨r1, t1⟩ := B03.2 1 (by simp)
      obtain ⟨r2, t2⟩ := B03.2 2 (by simp)
      obtain ⟨r3, t3⟩ := B03.2 3 (by simp)
      obtain ⟨r4, t4⟩ := B03.2 4 (by simp)
      obtain ⟨r5, t5⟩ := B03.2 5 (by simp)
      obtain ⟨r6, t6⟩ := B03.2 6 (by simp)
      obtain ⟨q0, u0⟩ := B13.2 0 (by simp)
      obtain ⟨q1, u1⟩ := B13.2 1 (by simp)
      obtain ⟨q2, u2⟩ := B13.2 2 (by simp)
      obtain ⟨q3, u3⟩ := B13.2 3 (by simp)
      obtain ⟨q4, u4⟩ := B13.2 4 (by simp)
      obtain ⟨q5, u5⟩ := B13.2 5 (by simp)
      obtain ⟨q6, u6⟩ := B13.2 6 (by simp)
      simp at r0 r1 r2 r3 r4 r5 r6 q0 q1 q2 q3 q4 q5 q6
      clear hi3 hr3 hown3 hb3 HCL Fb Ab FbX AbX B0b B1b B03 B13 Hba Hbb hza hsb HRs Hb hbf hn hl
      go_wp2_with fail
      refine bodyPost_ret (v := .agg #[.slice (some ⟨w.heap.size + 1 + 1, 0, none⟩) s.frames.length s.frames.length, .slice (some ⟨wa.heap.size, 0, none⟩) s.heap.length cH, .slice A4 s.out.length a4, .int .i64 s.fuel, .bool s.done, .int .i64 s.value, .int .i64 s.trap]) (by simp [results, Tryz.results61, go_sem, q0, q1, q2, q3, q4, q5, q6]) rfl
        ⟨_, _, _, _, _, _, (fun b j => if b < wa.heap.size then (if b = w.heap.size + 1 + 1 then .fr else own b j) else if b < wb.heap.size then ownH b j else .out), X, Y, Z, rfl, ⟨OwnFr.lower (B := w.heap.size + 1 + 1) ?_ (by omega), OwnAr.lower (B := wa.heap.size) ?_ (by have := hz3.out; omega), IRow.lower (B := wb.heap.size) ?_ (by have := hz3.out; omega), Room.lower (B := wb.heap.size) ?_ (by have := hz3.out; omega)⟩, ?_⟩
      · iterate 8 (refine OwnFr.setLow ?_ (by simp <;> omega) _)
        exact F3.out
      · iterate 8 (refine OwnAr.setLow ?_ (by have := hz3.out; simp <;> omega) _)
        exact A3'.out
      · iterate 8 (refine IRow.set ?_ (by have := hz3.out; simp <;> omega) _)
        exact HI3.out.1
      · iterate 8 (refine Room.setLow ?_ (by have := hz3.out; simp <;> omega) _)
        exact HI3.out.2
      · iterate 8 (refine Below.setCell ?_ (by simp) _)
        exact Hb3.out
end Go.Proofs.YtnknnncehcofnaaGreatDoor
