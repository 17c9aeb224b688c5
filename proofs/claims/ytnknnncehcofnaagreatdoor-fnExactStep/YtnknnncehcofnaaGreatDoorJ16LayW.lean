/- Numbers copied; impl.layFrame, newFrame; spec.l06Frame. laws.toState and what it calls: what it makes reads as what it was given, in memory of its own. -/
import Derived.Test.YtnknnncehcofnaaGreatDoorJ0Prg
import Derived.Test.YtnknnncehcofnaaGreatDoorJ14Marks
import Derived.Deep.RegionHeld3
import Derived.BigRegion
import Derived.Lib.LazyBuf
import Derived.Deep.MidRow
namespace Go.Proofs.YtnknnncehcofnaaGreatDoor
open Go.RowKit

theorem Tryz.size64 : (Tryz.prog.info? 2).map (·.size) = some 1 := by kernel_rfl

/-- 'copy(b[o:], a)', where there is room -/
theorem run_copyInts {B : Nat} {w : World} {g o dLen dCap : Nat} {v : Value} {l row : List Int} (hg : VRow w g (ints row)) (hv : IRow B w v l) (hd : l.length ≤ dLen) (ho : o + l.length ≤ row.length) (ty : TypeId) :
    (Builtin.copy_ #[28, 28] ty #[.slice (some ⟨g, o, none⟩) dLen dCap, v]).run Tryz.prog w = .ok (goInt l.length) (w.setCells g o (ints l)) ∧
      VRow (w.setCells g o (ints l)) g (ints (row.take o ++ l ++ row.drop (o + l.length))) ∧ (∀ C : Nat, C ≤ g → Below C w (w.setCells g o (ints l))) := by
  have hsome : ∀ j, j < (ints l).length → (w.cell? ⟨g, o + j, none⟩).isSome = true := fun j hj => by
    rw [ints_length] at hj
    rw [(hg.2 (o + j) (by rw [ints_length]; omega)).1]; rfl
  have hfroz : ∀ j, j < (ints l).length → w.frozen? ⟨g, o + j, none⟩ = false := fun j hj => by
    rw [ints_length] at hj
    exact (hg.2 (o + j) (by rw [ints_length]; omega)).2
  refine ⟨?_, ⟨?_, fun j hj => ⟨?_, ?_⟩⟩, fun C hC => below_setCells hC _ _ _ (Below.refl _ _)⟩
  · obtain ⟨A, cap, rfl, _, hc⟩ := hv
    by_cases h0 : l.length = 0
    · rw [h0, show l = [] from List.length_eq_zero_iff.1 h0]
      exact run_copy_none w _ _ ty 2 _ _ _ _ _ _ Tryz.underlying28 Tryz.size64 (by simp)
    · obtain ⟨b, off, rfl, _, _, _⟩ := hc 0 (by omega)
      have h := run_copy_cells (P := Tryz.prog) w 28 28 ty 2 g o dLen dCap ⟨b, off, none⟩ l.length cap (ints l) Tryz.underlying28 Tryz.size64 (by rw [ints_length]; simp only [Nat.min_def]; split <;> omega)
        (fun j u hu => by
          have hj : j < l.length := by have := (List.getElem?_eq_some_iff.1 hu).1; rwa [ints_length] at this
          obtain ⟨b', off', e, _, _, h3⟩ := hc j hj
          simp only [Option.some.injEq, Addr.mk.injEq, and_true] at e
          obtain ⟨rfl, rfl⟩ := e
          rw [Addr.add_lit, h3, ← hu]
          simp [ints, hj]) hsome hfroz (fun u hu => by simp [ints] at hu; obtain ⟨a, _, rfl⟩ := hu; rfl)
      rwa [ints_length] at h
  · have := (below_setCells (B := 0) (b := g) (Nat.zero_le _) (ints l) o w (Below.refl _ _)).size
    have h1 := hg.1
    omega
  · rw [ints_length] at hj
    have hjl : j < row.length := by simp at hj; omega
    by_cases h1 : j < o
    · rw [World.cell?_setCells_out g _ _ _ _ (fun _ _ => .inl (by exact h1)), (hg.2 j (by rw [ints_length]; exact hjl)).1]
      simp [ints, show j < min o row.length by omega]
    · by_cases h2 : j < o + l.length
      · obtain ⟨i, rfl⟩ : ∃ i, j = o + i := ⟨j - o, by omega⟩
        rw [World.cell?_setCells_in g _ _ _ hsome i (by rw [ints_length]; omega)]
        simp [ints, show min o row.length = o by omega, show i < l.length by omega]
      · rw [World.cell?_setCells_out g _ _ _ _ (fun _ _ => .inr (by show o + (ints l).length ≤ j; rw [ints_length]; omega)), (hg.2 j (by rw [ints_length]; exact hjl)).1]
        simp only [ints, List.getElem_map, Option.some.injEq]
        congr 1
        rw [List.getElem_append_right (by simp; omega), List.getElem_drop]
        congr 1
        simp
        omega
  · rw [ints_length] at hj
    have hjl : j < row.length := by simp at hj; omega
    rw [World.frozen?_setCells]
    exact (hg.2 j (by rw [ints_length]; exact hjl)).2

/-- a frame's block -/
def layRow (lo : Nat) (l st : List Int) : List Int := (l ++ List.replicate (lo - l.length) 0) ++ (st ++ List.replicate (max 8 st.length - st.length) 0)

set_option maxRecDepth 100000 in
set_option maxHeartbeats 1600000 in
theorem implLay {B : Nat} (f pc : Int) (lo : Nat) (v u : Value) (l st : List Int) (w : World) (hv : IRow B w v l) (hu : IRow B w u st) (hl : l.length ≤ lo) (hlo : lo ≤ 1048576) (hst : st.length ≤ 1048576) :
    Calls Tryz.prog 175 #[.int .i64 f, .int .i64 pc, .int .i64 lo, v, u] w fun e w' => ∃ g, e = .returned (.agg #[.int .i64 f, .int .i64 pc, .slice (some ⟨g, 0, none⟩) lo lo, .slice (some ⟨g, lo, none⟩) st.length (max 8 st.length)]) ∧ w.heap.size ≤ g ∧ VRow w' g (ints (layRow lo l st)) ∧ Below w.heap.size w w' := by
  have Hv : Hid (IRow B w v l) := hv
  have Hu : Hid (IRow B w u st) := hu
  obtain ⟨A, cap, rfl⟩ := hv.form
  obtain ⟨D, dap, rfl⟩ := hu.form
  clear hv hu
  obtain ⟨i0, hi, hz0, hz1, hz2⟩ := info_parts Tryz.info64
  obtain ⟨mx, hmx⟩ : ∃ mx, mx = max 8 st.length := ⟨_, rfl⟩
  have hmk := fun (W : World) => run_makeSlice (P := Tryz.prog) W 28 2 i0 _ Tryz.underlying28 hi hz0 .i64 .i64 (lo + mx : Nat) (lo + mx : Nat) (by omega) (by omega) (by rw [hz1]; simp; omega) (by rw [hz2]; omega) (by omega)
  simp only [hz1, Int.toNat_natCast, Nat.mul_one] at hmk
  have Hmx : Hid (mx = max 8 st.length) := hmx
  obtain ⟨W0, hW0⟩ : ∃ W0, W0 = (w.alloc (.cells #[.int .i64 0, .int .i64 0, .slice none 0 0, .slice none 0 0] 110)).alloc (.cells (madeCells #[Value.int .i64 0] (lo + mx)) 2) := ⟨_, rfl⟩
  have hb0 : Below w.heap.size w W0 := by rw [hW0]; exact ((Below.refl _ _).alloc (Nat.le_refl _) _).alloc (by simp) _
  have hrow0 : VRow W0 (w.heap.size + 1) (ints (List.replicate (lo + mx) 0)) := by
    have y := vrow_new (w.alloc (.cells #[.int .i64 0, .int .i64 0, .slice none 0 0, .slice none 0 0] 110)) (madeCells #[Value.int .i64 0] (lo + mx)) 2
    rw [toList_madeCells_one] at y
    rw [hW0, show ints (List.replicate (lo + mx) 0) = List.replicate (lo + mx) (.int .i64 0) by simp [ints]]
    simpa using y
  obtain ⟨hcp1, hrow1, hbel1⟩ := run_copyInts (dLen := lo + mx) (dCap := lo + mx) (o := 0) hrow0 (Hv.out.below hb0) (by omega) (by simp; omega) 3
  obtain ⟨W1, hW1⟩ : ∃ W1, W1 = W0.setCells (w.heap.size + 1) 0 (ints l) := ⟨_, rfl⟩
  rw [← hW1] at hcp1 hrow1 hbel1
  have hb1 : Below w.heap.size w W1 := hb0.trans (hbel1 _ (by omega))
  obtain ⟨hcp2, hrow2, hbel2⟩ := run_copyInts (dLen := mx) (dCap := mx) (o := lo) hrow1 (Hu.out.below hb1) (by omega) (by simp; omega) 3
  obtain ⟨W2, hW2⟩ : ∃ W2, W2 = W1.setCells (w.heap.size + 1) lo (ints st) := ⟨_, rfl⟩
  rw [← hW2] at hcp2 hrow2 hbel2
  have hb2 : Below w.heap.size w W2 := hb1.trans (hbel2 _ (by omega))
  have hfin : layRow lo l st = (((List.replicate (lo + mx) (0 : Int)).take 0 ++ l ++ (List.replicate (lo + mx) (0 : Int)).drop (0 + l.length)).take lo ++ st ++ ((List.replicate (lo + mx) (0 : Int)).take 0 ++ l ++ (List.replicate (lo + mx) (0 : Int)).drop (0 + l.length)).drop (lo + st.length)) := by
    have h1 : (List.replicate (lo + mx) (0 : Int)).drop (0 + l.length) = List.replicate (lo + mx - l.length) 0 := by rw [List.drop_replicate, Nat.zero_add]
    rw [h1, List.take_zero, List.nil_append, List.take_append, List.drop_append, List.take_of_length_le (by omega), List.take_replicate, List.drop_of_length_le (by omega), List.drop_replicate, List.nil_append]
    unfold layRow
    rw [← hmx, show min (lo - l.length) (lo + mx - l.length) = lo - l.length by omega, show lo + mx - l.length - (lo + st.length - l.length) = mx - st.length by omega]
    simp
  have HR2 : Hid (VRow W2 (w.heap.size + 1) (ints (layRow lo l st))) := by rw [hfin]; exact hrow2
  have Hb2 : Hid (Below w.heap.size w W2) := hb2
  have HRz : Hid (Box W2 w.heap.size #[.int .i64 0, .int .i64 0, .slice none 0 0, .slice none 0 0] ∧ ∀ j, j < 4 → W2.frozen? ⟨w.heap.size, j, none⟩ = false) := by
    have hbb := (hbel1 (w.heap.size + 1) (Nat.le_refl _)).trans (hbel2 (w.heap.size + 1) (Nat.le_refl _))
    have y := vrow_new w #[.int .i64 0, .int .i64 0, .slice none 0 0, .slice none 0 0] 110
    have hal : Below (w.alloc (.cells #[.int .i64 0, .int .i64 0, .slice none 0 0, .slice none 0 0] 110)).heap.size (w.alloc (.cells #[.int .i64 0, .int .i64 0, .slice none 0 0, .slice none 0 0] 110)) W0 := by rw [hW0]; exact (Below.refl _ _).alloc (Nat.le_refl _) _
    have y0 := y.below hal
    have b0 := (box_new w #[.int .i64 0, .int .i64 0, .slice none 0 0, .slice none 0 0] 110).below hal
    refine ⟨⟨Nat.lt_of_lt_of_le b0.1 hbb.size, fun j => by rw [hbb.cell (by show w.heap.size < w.heap.size + 1; omega)]; exact b0.2 j⟩, fun j hj => ?_⟩
    rw [hbb.frozen (by show w.heap.size < w.heap.size + 1; omega)]
    exact (y0.2 j (by simpa using hj)).2
  clear hW1 hW2 hrow0 hrow1 hrow2 hbel1 hbel2 hb0 hb1 hb2 hfin hz0 hz1 hz2 hi
  subst hW0
  by_cases h8 : 8 < st.length
  · have hm8 : mx = st.length := by omega
    subst hm8
    rw [show max 8 st.length = st.length by omega]
    have hc8 : ((lo + st.length : Nat) : Int) = (lo : Int) + st.length := by omega
    have h8' : (8 : Int) < st.length := by omega
    have hs0 : st.length ≠ 0 := by omega
    have hs0' : ¬ lo + st.length = lo := by omega
    rw [hc8] at hmk
    clear hmx hc8
    go_enter Tryz.func175, Tryz.ntmps175
    go_wp2_with fail
    clear hcp1 hcp2 hmk
    have q0 := HRz.out.1.2 0
    have q1 := HRz.out.1.2 1
    have q2 := HRz.out.1.2 2
    have q3 := HRz.out.1.2 3
    have f0 := HRz.out.2 0 (by omega)
    have f1 := HRz.out.2 1 (by omega)
    have f2 := HRz.out.2 2 (by omega)
    have f3 := HRz.out.2 3 (by omega)
    have z0 := HRz.out.1.1
    simp at q0 q1 q2 q3
    go_region
    go_wp2_with fail
    refine bodyPost_ret (v := .agg #[.int .i64 f, .int .i64 pc, .slice (some ⟨w.heap.size + 1, 0, none⟩) lo lo, .slice (some ⟨w.heap.size + 1, lo, none⟩) st.length st.length]) (by simp [results, Tryz.results175, go_sem, q0, q1, q2, q3]) rfl ⟨w.heap.size + 1, rfl, by omega, ?_, ?_⟩
    · exact ((((HR2.out.set_far _ _ (by simp)).set_far _ _ (by simp)).set_far _ _ (by simp)).set_far _ _ (by simp)).below (Below.refl _ _).drew
    · exact ((((Hb2.out.setCell (by simp) _).setCell (by simp) _).setCell (by simp) _).setCell (by simp) _).drew
  · have hm8 : mx = 8 := by omega
    subst hm8
    rw [show max 8 st.length = 8 by omega]
    have hc8 : ((lo + 8 : Nat) : Int) = (lo : Int) + 8 := by omega
    rw [hc8] at hmk
    clear hmx hc8
    go_enter Tryz.func175, Tryz.ntmps175
    go_wp2_with fail
    clear hcp1 hcp2 hmk
    have q0 := HRz.out.1.2 0
    have q1 := HRz.out.1.2 1
    have q2 := HRz.out.1.2 2
    have q3 := HRz.out.1.2 3
    have f0 := HRz.out.2 0 (by omega)
    have f1 := HRz.out.2 1 (by omega)
    have f2 := HRz.out.2 2 (by omega)
    have f3 := HRz.out.2 3 (by omega)
    have z0 := HRz.out.1.1
    simp at q0 q1 q2 q3
    have hs8 : (st.length : Int) ≤ 8 := by omega
    go_region
    go_wp2_with fail
    refine bodyPost_ret (v := .agg #[.int .i64 f, .int .i64 pc, .slice (some ⟨w.heap.size + 1, 0, none⟩) lo lo, .slice (some ⟨w.heap.size + 1, lo, none⟩) st.length 8]) (by simp [results, Tryz.results175, go_sem, q0, q1, q2, q3]) rfl ⟨w.heap.size + 1, rfl, by omega, ?_, ?_⟩
    · exact ((((HR2.out.set_far _ _ (by simp)).set_far _ _ (by simp)).set_far _ _ (by simp)).set_far _ _ (by simp)).below (Below.refl _ _).drew
    · exact ((((Hb2.out.setCell (by simp) _).setCell (by simp) _).setCell (by simp) _).setCell (by simp) _).drew
end Go.Proofs.YtnknnncehcofnaaGreatDoor

namespace Go.Proofs.YtnknnncehcofnaaGreatDoor
open Go.RowKit

theorem Tryz.infoFrame : (Tryz.prog.info? 110).map (fun i => (i.zero, i.size, i.bytes)) = some (some (.agg #[.int .i64 0, .int .i64 0, .slice none 0 0, .slice none 0 0]), 4, 64) := by kernel_rfl
theorem Tryz.infoInts : (Tryz.prog.info? 28).map (fun i => (i.zero, i.size, i.bytes)) = some (some (.slice none 0 0), 1, 24) := by kernel_rfl

set_option maxRecDepth 100000 in
set_option maxHeartbeats 800000 in
theorem toInts {B : Nat} (v : Value) (c : List Int) (w : World) (hr : IRow B w v c) (hn : c.length ≤ 1048576) :
    Calls Tryz.prog 60 #[v] w fun e w' => ∃ v', e = .returned v' ∧ IRow w.heap.size w' v' c ∧ Below w.heap.size w w' := by
  obtain ⟨i0, hi, hz0, hz1, hz2⟩ := info_parts Tryz.info64
  have hmk := fun (W : World) => run_makeSlice (P := Tryz.prog) W 28 2 i0 _ Tryz.underlying28 hi hz0 .i64 .i64 c.length c.length (by omega) (by omega) (by rw [hz1]; simp; omega) (by rw [hz2]; omega) (by omega)
  simp only [hz1, Int.toNat_natCast, Nat.mul_one] at hmk
  have Hr : Hid (IRow B w v c) := hr
  obtain ⟨A, cap, rfl, _, hc⟩ := hr
  clear hc
  go_enter Tryz.func60, Tryz.ntmps60
  go_wp2
  clear hmk
  go_loopw [4] (fun i wr => ∃ k : Nat, k ≤ c.length ∧ i = .int .i64 k ∧ Slots wr w.heap.size c.length ∧ Below w.heap.size w wr ∧ ∀ j (h : j < c.length), j < k → wr.cell? ⟨w.heap.size, j, none⟩ = some (.int .i64 c[j]))
    (fun i _ => c.length - (intOf i).toNat)
  case atStart =>
    refine ⟨0, Nat.zero_le _, rfl, ?_, (Below.refl _ _).alloc (Nat.le_refl _) _, fun j _ h => by omega⟩
    have := slots_new w (madeCells #[Value.int .i64 0] c.length) 2
    rwa [size_madeCells] at this
  case round =>
    obtain ⟨k, hk, rfl, hs, hb, hcs⟩ := hrel
    by_cases hkl : k < c.length
    · obtain ⟨b, off, rfl, _, hlt, c0⟩ := (Hr.out.below hb).at k hkl
      have Hb : Hid (Below w.heap.size w wr) := hb
      have Hs : Hid (Slots wr w.heap.size c.length) := hs
      have Hcs : Hid (∀ j (h : j < c.length), j < k → wr.cell? ⟨w.heap.size, j, none⟩ = some (.int .i64 c[j])) := hcs
      have hw0 : w.heap.size < wr.heap.size := hs.1
      obtain ⟨⟨z0, hz0⟩, f0⟩ := hs.2 k hkl
      clear hb hs hcs
      go_wp2_with fail
      go_roundw
      case rel =>
        refine ⟨k + 1, by omega, by go_num, Hs.out.set _ _, Hb.out.setCell (by simp) _, ?_⟩
        intro j hj hjk
        by_cases he : j = k
        · subst he
          exact cell_set_at Hs.out hj _
        · rw [cell_set_far _ _ _ _ _ (by omega)]; exact Hcs.out j hj (by omega)
      case measure => simp [intOf]; omega
    · go_wp2
      go_ret
      refine ⟨_, rfl, ⟨_, _, rfl, by omega, fun i hi => ⟨w.heap.size, 0, rfl, Nat.le_refl _, hs.1, ?_⟩⟩, hb⟩
      simpa using hcs i hi (by omega)

/-- three blocks that were just laid -/
theorem three_rows (w : World) (C D E : Array Value) (t u s : TypeId) : VRow (((w.alloc (.cells C t)).alloc (.cells D u)).alloc (.cells E s)) w.heap.size C.toList ∧ VRow (((w.alloc (.cells C t)).alloc (.cells D u)).alloc (.cells E s)) (w.heap.size + 1) D.toList ∧
    VRow (((w.alloc (.cells C t)).alloc (.cells D u)).alloc (.cells E s)) (w.heap.size + 1 + 1) E.toList ∧ Below w.heap.size w (((w.alloc (.cells C t)).alloc (.cells D u)).alloc (.cells E s)) := by
  have h1 : (w.alloc (.cells C t)).heap.size = w.heap.size + 1 := by simp
  have h2 : ((w.alloc (.cells C t)).alloc (.cells D u)).heap.size = w.heap.size + 1 + 1 := by simp
  have y0 := vrow_new w C t
  have y1 := vrow_new (w.alloc (.cells C t)) D u
  have y2 := vrow_new ((w.alloc (.cells C t)).alloc (.cells D u)) E s
  rw [h1] at y1
  rw [h2] at y2
  have hb1 : Below (w.alloc (.cells C t)).heap.size (w.alloc (.cells C t)) ((w.alloc (.cells C t)).alloc (.cells D u)) := (Below.refl _ _).alloc (Nat.le_refl _) _
  have hb2 : Below ((w.alloc (.cells C t)).alloc (.cells D u)).heap.size ((w.alloc (.cells C t)).alloc (.cells D u)) (((w.alloc (.cells C t)).alloc (.cells D u)).alloc (.cells E s)) := (Below.refl _ _).alloc (Nat.le_refl _) _
  exact ⟨(y0.below hb1).below hb2, y1.below hb2, y2, (((Below.refl _ _).alloc (Nat.le_refl _) _).alloc (by simp) _).alloc (by simp; omega) _⟩

theorem VRow.c {w : World} {b : Nat} {vs : List Value} (h : VRow w b vs) (j : Nat) (hj : j < vs.length) : w.cell? ⟨b, j, none⟩ = some vs[j] := (h.2 j hj).1
theorem VRow.f {w : World} {b : Nat} {vs : List Value} (h : VRow w b vs) (j : Nat) (hj : j < vs.length) : w.frozen? ⟨b, j, none⟩ = false := (h.2 j hj).2

set_option maxHeartbeats 1600000 in
theorem toFrame {B : Nat} (x y : Int) (v u : Value) (l t : List Int) (w : World) (hr : IRow B w v l) (hu : IRow B w u t) (hn : l.length ≤ 1048576) (hm : t.length ≤ 1048576) :
    Calls Tryz.prog 115 #[.agg #[.int .i64 x, .int .i64 y, v, u]] w fun e w' => ∃ v' u', e = .returned (.agg #[.int .i64 x, .int .i64 y, v', u']) ∧ IRow w.heap.size w' v' l ∧ IRow w.heap.size w' u' t ∧ Below w.heap.size w w' := by
  have Hr : Hid (IRow B w v l) := hr
  have Hu : Hid (IRow B w u t) := hu
  obtain ⟨A, cap, rfl⟩ := hr.form
  obtain ⟨D, dap, rfl⟩ := hu.form
  clear hr hu
  obtain ⟨x0, x1, x2, x3⟩ := three_rows w #[.int .i64 x, .int .i64 y, .slice A l.length cap, .slice D t.length dap] #[.int .i64 0, .int .i64 0, .slice none 0 0, .slice none 0 0] #[.int .i64 x, .int .i64 y, .slice none 0 0, .slice none 0 0] 157 110 110
  have X0 : Hid (VRow _ w.heap.size _) := x0
  have X1 : Hid (VRow _ (w.heap.size + 1) _) := x1
  have X2 : Hid (VRow _ (w.heap.size + 1 + 1) _) := x2
  have X3 : Hid (Below w.heap.size w _) := x3
  clear x0 x1 x2 x3
  go_enter Tryz.func115, Tryz.ntmps115
  go_wp2_with fail
  refine (toInts _ l _ (Hr.out.below X3.out) hn).mono ?_
  rintro e w1 ⟨v', rfl, hi1, hb1⟩
  have Hi : Hid (IRow (w.heap.size + 1 + 1 + 1) w1 v' l) := hi1.lower (by simp)
  obtain ⟨A', cap', rfl⟩ := hi1.form
  have Y0 : Hid (VRow w1 w.heap.size [.int .i64 x, .int .i64 y, .slice A l.length cap, .slice D t.length dap]) := X0.out.below hb1
  have Y1 : Hid (VRow w1 (w.heap.size + 1) [.int .i64 0, .int .i64 0, .slice none 0 0, .slice none 0 0]) := X1.out.below hb1
  have Y2 : Hid (VRow w1 (w.heap.size + 1 + 1) [.int .i64 x, .int .i64 y, .slice none 0 0, .slice none 0 0]) := X2.out.below hb1
  have Hb1 : Hid (Below w.heap.size w w1) := X3.out.trans (hb1.mono X3.out.size)
  clear hi1 hb1 X0 X1 X2 X3
  have Z0 : Hid (VRow (w1.setCell ⟨w.heap.size + 1 + 1, 2, none⟩ (.slice A' l.length cap')) w.heap.size [.int .i64 x, .int .i64 y, .slice A l.length cap, .slice D t.length dap]) := Y0.out.set_far _ _ (by simp; omega)
  have Z1 : Hid (VRow (w1.setCell ⟨w.heap.size + 1 + 1, 2, none⟩ (.slice A' l.length cap')) (w.heap.size + 1) [.int .i64 0, .int .i64 0, .slice none 0 0, .slice none 0 0]) := Y1.out.set_far _ _ (by simp)
  have Z2 : Hid (VRow (w1.setCell ⟨w.heap.size + 1 + 1, 2, none⟩ (.slice A' l.length cap')) (w.heap.size + 1 + 1) [.int .i64 x, .int .i64 y, .slice A' l.length cap', .slice none 0 0]) := Y2.out.set_at 2 _ (by simp)
  have Z3 : Hid (Below w.heap.size w (w1.setCell ⟨w.heap.size + 1 + 1, 2, none⟩ (.slice A' l.length cap'))) := Hb1.out.setCell (by simp; omega) _
  have Zi : Hid (IRow (w.heap.size + 1 + 1 + 1) (w1.setCell ⟨w.heap.size + 1 + 1, 2, none⟩ (.slice A' l.length cap')) (.slice A' l.length cap') l) := Hi.out.set (by simp) _
  have d2 := Y2.out.c 2 (by simp)
  have f2 := Y2.out.f 2 (by simp)
  have d0 := Y0.out.c 3 (by simp)
  have b2 := Y2.out.1
  simp at d2 d0
  go_wp2_with fail
  refine (toInts _ t _ (Hu.out.below Z3.out) hm).mono ?_
  rintro e w2 ⟨u', rfl, hi2, hb2⟩
  have Hj : Hid (IRow (w.heap.size + 1 + 1 + 1) w2 u' t) := hi2.lower (by have := Z2.out.1; omega)
  have Hi2 : Hid (IRow (w.heap.size + 1 + 1 + 1) w2 (.slice A' l.length cap') l) := Zi.out.below hb2
  obtain ⟨D', dap', rfl⟩ := hi2.form
  have V1 : Hid (VRow w2 (w.heap.size + 1) [.int .i64 0, .int .i64 0, .slice none 0 0, .slice none 0 0]) := Z1.out.below hb2
  have V2 : Hid (VRow w2 (w.heap.size + 1 + 1) [.int .i64 x, .int .i64 y, .slice A' l.length cap', .slice none 0 0]) := Z2.out.below hb2
  have Hb2 : Hid (Below w.heap.size w w2) := Z3.out.trans (hb2.mono Z3.out.size)
  clear hi2 hb2 d2 f2 d0 b2 Y0 Y1 Y2 Z0 Z1 Z2 Z3 Zi Hb1
  obtain ⟨p0, q0⟩ := V1.out.2 0 (by simp)
  obtain ⟨p1, q1⟩ := V1.out.2 1 (by simp)
  obtain ⟨p2, q2⟩ := V1.out.2 2 (by simp)
  obtain ⟨p3, q3⟩ := V1.out.2 3 (by simp)
  obtain ⟨r0, s0⟩ := V2.out.2 0 (by simp)
  obtain ⟨r1, s1⟩ := V2.out.2 1 (by simp)
  obtain ⟨r2, s2⟩ := V2.out.2 2 (by simp)
  obtain ⟨r3, s3⟩ := V2.out.2 3 (by simp)
  have hz := V2.out.1
  simp at p0 p1 p2 p3 r0 r1 r2 r3
  go_wp2_with fail
  exact bodyPost_ret (v := .agg #[.int .i64 x, .int .i64 y, .slice A' l.length cap', .slice D' t.length dap']) (by simp [results, Tryz.results115, go_sem, p0, p1, p2, p3]) rfl
    ⟨_, _, rfl, (((((Hi2.out.set (by simp) _).set (by simp) _).set (by simp) _).set (by simp) _).set (by simp) _).lower (by omega), (((((Hj.out.set (by simp) _).set (by simp) _).set (by simp) _).set (by simp) _).set (by simp) _).lower (by omega), ((((Hb2.out.setCell (by simp; omega) _).setCell (by simp) _).setCell (by simp) _).setCell (by simp) _).setCell (by simp) _⟩

set_option maxRecDepth 100000 in
set_option maxHeartbeats 1600000 in
theorem toFrames {B : Nat} (v : Value) (p : List FrM) (w : World) (hr : FrRow B w v p) (hn : bulkF p ≤ 1048576) :
    Calls Tryz.prog 58 #[v] w fun e w' => ∃ v', e = .returned v' ∧ FrRow w.heap.size w' v' p ∧ Below w.heap.size w w' := by
  have hl : p.length ≤ 1048576 := by unfold bulkF at hn; omega
  obtain ⟨i0, hi, hz0, hz1, hz2⟩ := info_parts Tryz.infoFrame
  have hmk := fun (W : World) => run_makeSlice (P := Tryz.prog) W 43 110 i0 _ Tryz.underlying43 hi hz0 .i64 .i64 p.length p.length (by omega) (by omega) (by rw [hz1]; simp; omega) (by rw [hz2]; omega) (by omega)
  simp only [hz1, Int.toNat_natCast] at hmk
  have Hr : Hid (FrRow B w v p) := hr
  obtain ⟨A, cap, rfl⟩ := hr.form
  clear hr
  go_enter Tryz.func58, Tryz.ntmps58
  go_wp2
  clear hmk
  go_loopw [4] (fun i wr => ∃ k : Nat, k ≤ p.length ∧ i = .int .i64 k ∧ Slots wr w.heap.size (p.length * 4) ∧ Below w.heap.size w wr ∧
      ∀ j (h : j < p.length), j < k → ∃ x y, wr.cell? ⟨w.heap.size, j * 4, none⟩ = some (.int .i64 p[j].func) ∧ wr.cell? ⟨w.heap.size, j * 4 + 1, none⟩ = some (.int .i64 p[j].pc) ∧ wr.cell? ⟨w.heap.size, j * 4 + 2, none⟩ = some x ∧ wr.cell? ⟨w.heap.size, j * 4 + 3, none⟩ = some y ∧ IRow (w.heap.size + 1) wr x p[j].locals ∧ IRow (w.heap.size + 1) wr y p[j].stack)
    (fun i _ => p.length - (intOf i).toNat)
  case atStart =>
    refine ⟨0, Nat.zero_le _, rfl, ?_, (Below.refl _ _).alloc (Nat.le_refl _) _, fun j _ h => by omega⟩
    have := slots_new w (madeCells #[Value.int .i64 0, Value.int .i64 0, Value.slice none 0 0, Value.slice none 0 0] (p.length * 4)) 110
    rwa [size_madeCells] at this
  case round =>
    obtain ⟨k, hk, rfl, hs, hb, hcs⟩ := hrel
    by_cases hkl : k < p.length
    · obtain ⟨b, off, x, y, rfl, hlt, c0, c1, c2, c3, hx, hy⟩ := (Hr.out.below hb).at k hkl
      have Hx : Hid (IRow B wr x p[k].locals) := hx
      have Hy : Hid (IRow B wr y p[k].stack) := hy
      have Hb : Hid (Below w.heap.size w wr) := hb
      have Hs : Hid (Slots wr w.heap.size (p.length * 4)) := hs
      have Hcs : Hid (∀ j (h : j < p.length), j < k → ∃ x y, wr.cell? ⟨w.heap.size, j * 4, none⟩ = some (.int .i64 p[j].func) ∧ wr.cell? ⟨w.heap.size, j * 4 + 1, none⟩ = some (.int .i64 p[j].pc) ∧ wr.cell? ⟨w.heap.size, j * 4 + 2, none⟩ = some x ∧ wr.cell? ⟨w.heap.size, j * 4 + 3, none⟩ = some y ∧ IRow (w.heap.size + 1) wr x p[j].locals ∧ IRow (w.heap.size + 1) wr y p[j].stack) := hcs
      have hbk : p[k].locals.length + p[k].stack.length ≤ 1048576 := by have h := sum_le FrM.bulk p k hkl; unfold bulkF at hn; unfold FrM.bulk at h hn; omega
      clear hb hs hcs hx hy
      go_wp2_with fail
      refine (toFrame _ _ x y p[k].locals p[k].stack _ Hx.out Hy.out (by omega) (by omega)).mono ?_
      rintro e w1 ⟨v1, u1, rfl, hi1, hj1, hb1⟩
      have Hb1 : Hid (Below wr.heap.size wr w1) := hb1
      have Hs1 : Hid (Slots w1 w.heap.size (p.length * 4)) := Hs.out.below hb1
      have hw0 : w.heap.size < w1.heap.size := Hs1.out.1
      have Hi1 : Hid (IRow (w.heap.size + 1) w1 v1 p[k].locals) := hi1.lower Hs.out.1
      have Hj1 : Hid (IRow (w.heap.size + 1) w1 u1 p[k].stack) := hj1.lower Hs.out.1
      obtain ⟨A1, cap1, rfl⟩ := hi1.form
      obtain ⟨A2, cap2, rfl⟩ := hj1.form
      obtain ⟨⟨z0, hz0⟩, f0⟩ := Hs1.out.2 (k * 4) (by omega)
      obtain ⟨⟨z1, hz1⟩, f1⟩ := Hs1.out.2 (k * 4 + 1) (by omega)
      obtain ⟨⟨z2, hz2⟩, f2⟩ := Hs1.out.2 (k * 4 + 2) (by omega)
      obtain ⟨⟨z3, hz3⟩, f3⟩ := Hs1.out.2 (k * 4 + 3) (by omega)
      clear hb1 c0 c1 c2 c3 hi1 hj1
      go_wp2_with fail
      go_roundw
      case rel =>
        refine ⟨k + 1, by omega, by go_num, (((Hs1.out.set _ _).set _ _).set _ _).set _ _, ((((Hb.out.trans (Hb1.out.mono Hb.out.size)).setCell (by simp) _).setCell (by simp) _).setCell (by simp) _).setCell (by simp) _, ?_⟩
        intro j hj hjk
        by_cases he : j = k
        · subst he
          exact ⟨_, _, by rw [cell_set_far _ _ _ _ _ (by omega), cell_set_far _ _ _ _ _ (by omega), cell_set_far _ _ _ _ _ (by omega), cell_set_at Hs1.out (by omega)], by rw [cell_set_far _ _ _ _ _ (by omega), cell_set_far _ _ _ _ _ (by omega), cell_set_at (Hs1.out.set _ _) (by omega)],
            by rw [cell_set_far _ _ _ _ _ (by omega), cell_set_at ((Hs1.out.set _ _).set _ _) (by omega)], cell_set_at (((Hs1.out.set _ _).set _ _).set _ _) (by omega) _,
            (((Hi1.out.set (by simp) _).set (by simp) _).set (by simp) _).set (by simp) _, (((Hj1.out.set (by simp) _).set (by simp) _).set (by simp) _).set (by simp) _⟩
        · obtain ⟨x, y, h0, h1, h2, h3, h4, h5⟩ := Hcs.out j hj (by omega)
          refine ⟨x, y, ?_, ?_, ?_, ?_, ((((h4.below Hb1.out).set (by simp) _).set (by simp) _).set (by simp) _).set (by simp) _, ((((h5.below Hb1.out).set (by simp) _).set (by simp) _).set (by simp) _).set (by simp) _⟩
          · rw [cell_set_far _ _ _ _ _ (by omega), cell_set_far _ _ _ _ _ (by omega), cell_set_far _ _ _ _ _ (by omega), cell_set_far _ _ _ _ _ (by omega), Hb1.out.cell (by exact Hs.out.1)]; exact h0
          · rw [cell_set_far _ _ _ _ _ (by omega), cell_set_far _ _ _ _ _ (by omega), cell_set_far _ _ _ _ _ (by omega), cell_set_far _ _ _ _ _ (by omega), Hb1.out.cell (by exact Hs.out.1)]; exact h1
          · rw [cell_set_far _ _ _ _ _ (by omega), cell_set_far _ _ _ _ _ (by omega), cell_set_far _ _ _ _ _ (by omega), cell_set_far _ _ _ _ _ (by omega), Hb1.out.cell (by exact Hs.out.1)]; exact h2
          · rw [cell_set_far _ _ _ _ _ (by omega), cell_set_far _ _ _ _ _ (by omega), cell_set_far _ _ _ _ _ (by omega), cell_set_far _ _ _ _ _ (by omega), Hb1.out.cell (by exact Hs.out.1)]; exact h3
      case measure => simp [intOf]; omega
    · go_wp2
      go_ret
      refine ⟨_, rfl, ⟨_, _, rfl, by omega, fun i hi => ?_⟩, hb⟩
      obtain ⟨x, y, h0, h1, h2, h3, h4, h5⟩ := hcs i hi (by omega)
      exact ⟨w.heap.size, 0, x, y, rfl, Nat.le_refl _, hs.1, by simpa using h0, by simpa using h1, by simpa using h2, by simpa using h3, h4.lower (by omega), h5.lower (by omega)⟩

set_option maxRecDepth 100000 in
set_option maxHeartbeats 1600000 in
theorem toArrs {B : Nat} (v : Value) (p : List (List Int)) (w : World) (hr : ArrRow B w v p) (hn : bulkH p ≤ 1048576) :
    Calls Tryz.prog 59 #[v] w fun e w' => ∃ v', e = .returned v' ∧ ArrRow w.heap.size w' v' p ∧ Below w.heap.size w w' := by
  have hl : p.length ≤ 1048576 := by unfold bulkH at hn; omega
  obtain ⟨i0, hi, hz0, hz1, hz2⟩ := info_parts Tryz.infoInts
  have hmk := fun (W : World) => run_makeSlice (P := Tryz.prog) W 38 28 i0 _ Tryz.underlying38 hi hz0 .i64 .i64 p.length p.length (by omega) (by omega) (by rw [hz1]; simp; omega) (by rw [hz2]; omega) (by omega)
  simp only [hz1, Int.toNat_natCast, Nat.mul_one] at hmk
  have Hr : Hid (ArrRow B w v p) := hr
  obtain ⟨A, cap, rfl⟩ := hr.form
  clear hr
  go_enter Tryz.func59, Tryz.ntmps59
  go_wp2
  clear hmk
  go_loopw [4] (fun i wr => ∃ k : Nat, k ≤ p.length ∧ i = .int .i64 k ∧ Slots wr w.heap.size p.length ∧ Below w.heap.size w wr ∧
      ∀ j (h : j < p.length), j < k → ∃ x, wr.cell? ⟨w.heap.size, j, none⟩ = some x ∧ IRow (w.heap.size + 1) wr x p[j])
    (fun i _ => p.length - (intOf i).toNat)
  case atStart =>
    refine ⟨0, Nat.zero_le _, rfl, ?_, (Below.refl _ _).alloc (Nat.le_refl _) _, fun j _ h => by omega⟩
    have := slots_new w (madeCells #[Value.slice none 0 0] p.length) 28
    rwa [size_madeCells] at this
  case round =>
    obtain ⟨k, hk, rfl, hs, hb, hcs⟩ := hrel
    by_cases hkl : k < p.length
    · obtain ⟨b, off, x, rfl, hlt, c0, hx⟩ := (Hr.out.below hb).at k hkl
      have Hx : Hid (IRow B wr x p[k]) := hx
      have Hb : Hid (Below w.heap.size w wr) := hb
      have Hs : Hid (Slots wr w.heap.size p.length) := hs
      have Hcs : Hid (∀ j (h : j < p.length), j < k → ∃ x, wr.cell? ⟨w.heap.size, j, none⟩ = some x ∧ IRow (w.heap.size + 1) wr x p[j]) := hcs
      have hbk : p[k].length ≤ 1048576 := by have h := sum_le List.length p k hkl; unfold bulkH at hn; omega
      obtain ⟨Ax, cx, rfl⟩ := hx.form
      clear hb hs hcs hx
      go_wp2_with fail
      refine (toInts _ p[k] _ Hx.out hbk).mono ?_
      rintro e w1 ⟨v1, rfl, hi1, hb1⟩
      have Hb1 : Hid (Below wr.heap.size wr w1) := hb1
      have Hs1 : Hid (Slots w1 w.heap.size p.length) := Hs.out.below hb1
      have hw0 : w.heap.size < w1.heap.size := Hs1.out.1
      have Hi1 : Hid (IRow (w.heap.size + 1) w1 v1 p[k]) := hi1.lower Hs.out.1
      obtain ⟨A1, cap1, rfl⟩ := hi1.form
      obtain ⟨⟨z0, hz0⟩, f0⟩ := Hs1.out.2 k hkl
      clear hb1 c0 hi1
      go_wp2_with fail
      go_roundw
      case rel =>
        refine ⟨k + 1, by omega, by go_num, Hs1.out.set _ _, (Hb.out.trans (Hb1.out.mono Hb.out.size)).setCell (by simp) _, ?_⟩
        intro j hj hjk
        by_cases he : j = k
        · subst he
          exact ⟨_, cell_set_at Hs1.out hj _, Hi1.out.set (by simp) _⟩
        · obtain ⟨x, h0, h4⟩ := Hcs.out j hj (by omega)
          refine ⟨x, ?_, (h4.below Hb1.out).set (by simp) _⟩
          rw [cell_set_far _ _ _ _ _ (by omega), Hb1.out.cell (by exact Hs.out.1)]; exact h0
      case measure => simp [intOf]; omega
    · go_wp2
      go_ret
      refine ⟨_, rfl, ⟨_, _, rfl, by omega, fun i hi => ?_⟩, hb⟩
      obtain ⟨x, h0, h4⟩ := hcs i hi (by omega)
      exact ⟨w.heap.size, 0, x, rfl, Nat.le_refl _, hs.1, by simpa using h0, h4.lower (by omega)⟩

set_option maxRecDepth 100000 in
set_option maxHeartbeats 3200000 in
theorem toState {B : Nat} (x y z : Value) (s : StM) (w : World) (hr : StRow B w x y z s) (hn : s.bulk ≤ 1048576) :
    Calls Tryz.prog 17 #[stV x y z s] w fun e w' => ∃ x' y' z', e = .returned (stV x' y' z' s) ∧ StRow w.heap.size w' x' y' z' s ∧ Below w.heap.size w w' := by
  obtain ⟨hx, hy, hz⟩ := hr
  have Hx : Hid (FrRow B w x s.frames) := hx
  have Hy : Hid (ArrRow B w y s.heap) := hy
  have Hz : Hid (IRow B w z s.out) := hz
  obtain ⟨A, ca, rfl⟩ := hx.form
  obtain ⟨D, cd, rfl⟩ := hy.form
  obtain ⟨E, ce, rfl⟩ := hz.form
  clear hx hy hz
  unfold stV
  unfold StM.bulk at hn
  obtain ⟨x0, x1, x2, x3⟩ := three_rows w #[.slice A s.frames.length ca, .slice D s.heap.length cd, .slice E s.out.length ce, .int .i64 s.fuel, .bool s.done, .int .i64 s.value, .int .i64 s.trap]
    #[.slice none 0 0, .slice none 0 0, .slice none 0 0, .int .i64 0, .bool false, .int .i64 0, .int .i64 0] #[.slice none 0 0, .slice none 0 0, .slice none 0 0, .int .i64 0, .bool false, .int .i64 0, .int .i64 0] 40 45 45
  have X0 : Hid (VRow _ w.heap.size _) := x0
  have X1 : Hid (VRow _ (w.heap.size + 1) _) := x1
  have X2 : Hid (VRow _ (w.heap.size + 1 + 1) _) := x2
  have X3 : Hid (Below w.heap.size w _) := x3
  clear x0 x1 x2 x3
  go_enter Tryz.func17, Tryz.ntmps17
  go_wp2_with fail
  refine (toFrames _ s.frames _ (Hx.out.below X3.out) (by omega)).mono ?_
  rintro e w1 ⟨x', rfl, hi1, hb1⟩
  have Hi : Hid (FrRow (w.heap.size + 1 + 1 + 1) w1 x' s.frames) := hi1.lower (by simp)
  obtain ⟨A', ca', rfl⟩ := hi1.form
  have Y0 : Hid (VRow w1 w.heap.size [.slice A s.frames.length ca, .slice D s.heap.length cd, .slice E s.out.length ce, .int .i64 s.fuel, .bool s.done, .int .i64 s.value, .int .i64 s.trap]) := X0.out.below hb1
  have Y1 : Hid (VRow w1 (w.heap.size + 1) [.slice none 0 0, .slice none 0 0, .slice none 0 0, .int .i64 0, .bool false, .int .i64 0, .int .i64 0]) := X1.out.below hb1
  have Y2 : Hid (VRow w1 (w.heap.size + 1 + 1) [.slice none 0 0, .slice none 0 0, .slice none 0 0, .int .i64 0, .bool false, .int .i64 0, .int .i64 0]) := X2.out.below hb1
  have Hb1 : Hid (Below w.heap.size w w1) := X3.out.trans (hb1.mono X3.out.size)
  clear hi1 hb1 X0 X1 X2 X3
  obtain ⟨wa, hwa⟩ : ∃ wa, wa = w1.setCell ⟨w.heap.size + 1 + 1, 0, none⟩ (.slice A' s.frames.length ca') := ⟨_, rfl⟩
  have Za : Hid (VRow wa w.heap.size [.slice A s.frames.length ca, .slice D s.heap.length cd, .slice E s.out.length ce, .int .i64 s.fuel, .bool s.done, .int .i64 s.value, .int .i64 s.trap]) := by rw [hwa]; exact Y0.out.set_far _ _ (by simp; omega)
  have Zb : Hid (VRow wa (w.heap.size + 1) [.slice none 0 0, .slice none 0 0, .slice none 0 0, .int .i64 0, .bool false, .int .i64 0, .int .i64 0]) := by rw [hwa]; exact Y1.out.set_far _ _ (by simp)
  have Zc : Hid (VRow wa (w.heap.size + 1 + 1) [.slice A' s.frames.length ca', .slice none 0 0, .slice none 0 0, .int .i64 0, .bool false, .int .i64 0, .int .i64 0]) := by rw [hwa]; exact Y2.out.set_at 0 _ (by simp)
  have Zd : Hid (Below w.heap.size w wa) := by rw [hwa]; exact Hb1.out.setCell (by simp; omega) _
  have Ze : Hid (FrRow (w.heap.size + 1 + 1 + 1) wa (.slice A' s.frames.length ca') s.frames) := by rw [hwa]; exact Hi.out.set (by simp) _
  have d2 := Y2.out.c 0 (by simp)
  have f2 := Y2.out.f 0 (by simp)
  have d0 := Y0.out.c 1 (by simp)
  have b2 := Y2.out.1
  simp at d2 d0
  go_wp2_with fail
  try rw [← hwa]
  refine (toArrs _ s.heap _ (Hy.out.below Zd.out) (by omega)).mono ?_
  rintro e w2 ⟨y', rfl, hi2, hb2⟩
  have Hj : Hid (ArrRow (w.heap.size + 1 + 1 + 1) w2 y' s.heap) := hi2.lower (by have := Zc.out.1; omega)
  have Hi2 : Hid (FrRow (w.heap.size + 1 + 1 + 1) w2 (.slice A' s.frames.length ca') s.frames) := Ze.out.below hb2
  obtain ⟨D', cd', rfl⟩ := hi2.form
  have V0 : Hid (VRow w2 w.heap.size [.slice A s.frames.length ca, .slice D s.heap.length cd, .slice E s.out.length ce, .int .i64 s.fuel, .bool s.done, .int .i64 s.value, .int .i64 s.trap]) := Za.out.below hb2
  have V1 : Hid (VRow w2 (w.heap.size + 1) [.slice none 0 0, .slice none 0 0, .slice none 0 0, .int .i64 0, .bool false, .int .i64 0, .int .i64 0]) := Zb.out.below hb2
  have V2 : Hid (VRow w2 (w.heap.size + 1 + 1) [.slice A' s.frames.length ca', .slice none 0 0, .slice none 0 0, .int .i64 0, .bool false, .int .i64 0, .int .i64 0]) := Zc.out.below hb2
  have Hb2 : Hid (Below w.heap.size w w2) := Zd.out.trans (hb2.mono Zd.out.size)
  clear hi2 hb2 d2 f2 d0 b2 Y0 Y1 Y2 Za Zb Zc Zd Ze Hb1 Hi hwa
  obtain ⟨wb, hwb⟩ : ∃ wb, wb = w2.setCell ⟨w.heap.size + 1 + 1, 1, none⟩ (.slice D' s.heap.length cd') := ⟨_, rfl⟩
  have Za : Hid (VRow wb w.heap.size [.slice A s.frames.length ca, .slice D s.heap.length cd, .slice E s.out.length ce, .int .i64 s.fuel, .bool s.done, .int .i64 s.value, .int .i64 s.trap]) := by rw [hwb]; exact V0.out.set_far _ _ (by simp; omega)
  have Zb : Hid (VRow wb (w.heap.size + 1) [.slice none 0 0, .slice none 0 0, .slice none 0 0, .int .i64 0, .bool false, .int .i64 0, .int .i64 0]) := by rw [hwb]; exact V1.out.set_far _ _ (by simp)
  have Zc : Hid (VRow wb (w.heap.size + 1 + 1) [.slice A' s.frames.length ca', .slice D' s.heap.length cd', .slice none 0 0, .int .i64 0, .bool false, .int .i64 0, .int .i64 0]) := by rw [hwb]; exact V2.out.set_at 1 _ (by simp)
  have Zd : Hid (Below w.heap.size w wb) := by rw [hwb]; exact Hb2.out.setCell (by simp; omega) _
  have Ze : Hid (FrRow (w.heap.size + 1 + 1 + 1) wb (.slice A' s.frames.length ca') s.frames) := by rw [hwb]; exact Hi2.out.set (by simp) _
  have Zf : Hid (ArrRow (w.heap.size + 1 + 1 + 1) wb (.slice D' s.heap.length cd') s.heap) := by rw [hwb]; exact Hj.out.set (by simp) _
  have d2 := V2.out.c 1 (by simp)
  have f2 := V2.out.f 1 (by simp)
  have d0 := V0.out.c 2 (by simp)
  have b2 := V2.out.1
  simp at d2 d0
  go_wp2_with fail
  try rw [← hwb]
  refine (toInts _ s.out _ (Hz.out.below Zd.out) (by omega)).mono ?_
  rintro e w3 ⟨z', rfl, hi3, hb3⟩
  have Hk3 : Hid (IRow (w.heap.size + 1 + 1 + 1) w3 z' s.out) := hi3.lower (by have := Zc.out.1; omega)
  have Hi3 : Hid (FrRow (w.heap.size + 1 + 1 + 1) w3 (.slice A' s.frames.length ca') s.frames) := Ze.out.below hb3
  have Hj3 : Hid (ArrRow (w.heap.size + 1 + 1 + 1) w3 (.slice D' s.heap.length cd') s.heap) := Zf.out.below hb3
  obtain ⟨E', ce', rfl⟩ := hi3.form
  have V0' : Hid (VRow w3 w.heap.size [.slice A s.frames.length ca, .slice D s.heap.length cd, .slice E s.out.length ce, .int .i64 s.fuel, .bool s.done, .int .i64 s.value, .int .i64 s.trap]) := Za.out.below hb3
  have V1' : Hid (VRow w3 (w.heap.size + 1) [.slice none 0 0, .slice none 0 0, .slice none 0 0, .int .i64 0, .bool false, .int .i64 0, .int .i64 0]) := Zb.out.below hb3
  have V2' : Hid (VRow w3 (w.heap.size + 1 + 1) [.slice A' s.frames.length ca', .slice D' s.heap.length cd', .slice none 0 0, .int .i64 0, .bool false, .int .i64 0, .int .i64 0]) := Zc.out.below hb3
  have Hb3 : Hid (Below w.heap.size w w3) := Zd.out.trans (hb3.mono Zd.out.size)
  clear hi3 hb3 d2 f2 d0 b2 V0 V1 V2 Za Zb Zc Zd Ze Zf Hb2 Hi2 Hj hwb
  obtain ⟨p0, q0⟩ := V1'.out.2 0 (by simp)
  obtain ⟨p1, q1⟩ := V1'.out.2 1 (by simp)
  obtain ⟨p2, q2⟩ := V1'.out.2 2 (by simp)
  obtain ⟨p3, q3⟩ := V1'.out.2 3 (by simp)
  obtain ⟨p4, q4⟩ := V1'.out.2 4 (by simp)
  obtain ⟨p5, q5⟩ := V1'.out.2 5 (by simp)
  obtain ⟨p6, q6⟩ := V1'.out.2 6 (by simp)
  obtain ⟨r0, s0⟩ := V2'.out.2 0 (by simp)
  obtain ⟨r1, s1⟩ := V2'.out.2 1 (by simp)
  obtain ⟨r2, s2⟩ := V2'.out.2 2 (by simp)
  obtain ⟨r3, s3⟩ := V2'.out.2 3 (by simp)
  obtain ⟨r4, s4⟩ := V2'.out.2 4 (by simp)
  obtain ⟨r5, s5⟩ := V2'.out.2 5 (by simp)
  obtain ⟨r6, s6⟩ := V2'.out.2 6 (by simp)
  have k3 := V0'.out.c 3 (by simp)
  have k4 := V0'.out.c 4 (by simp)
  have k5 := V0'.out.c 5 (by simp)
  have k6 := V0'.out.c 6 (by simp)
  have hz := V2'.out.1
  simp at p0 p1 p2 p3 p4 p5 p6 r0 r1 r2 r3 r4 r5 r6 k3 k4 k5 k6
  go_wp2_with fail
  refine bodyPost_ret (v := .agg #[.slice A' s.frames.length ca', .slice D' s.heap.length cd', .slice E' s.out.length ce', .int .i64 s.fuel, .bool s.done, .int .i64 s.value, .int .i64 s.trap]) (by simp [results, Tryz.results17, go_sem, p0, p1, p2, p3, p4, p5, p6]) rfl
    ⟨_, _, _, rfl, ⟨?_, ?_, ?_⟩, ?_⟩
  · refine FrRow.lower (B := w.heap.size + 1 + 1 + 1) ?_ (by omega)
    iterate 12 (refine FrRow.set ?_ (by simp) _)
    exact Hi3.out
  · refine ArrRow.lower (B := w.heap.size + 1 + 1 + 1) ?_ (by omega)
    iterate 12 (refine ArrRow.set ?_ (by simp) _)
    exact Hj3.out
  · refine IRow.lower (B := w.heap.size + 1 + 1 + 1) ?_ (by omega)
    iterate 12 (refine IRow.set ?_ (by simp) _)
    exact Hk3.out
  · iterate 12 (refine Below.setCell ?_ (by simp; try omega) _)
    exact Hb3.out
end Go.Proofs.YtnknnncehcofnaaGreatDoor
