/- Numbers copied; impl.layFrame, newFrame; spec.l06Frame. -/
import Derived.Test.YtfaameimocjaiaaDoorSt
import Derived.Test.YtfaameimocjaiaaDoorMarks
import Derived.Deep.RegionHeld3
import Derived.BigRegion
import Derived.Lib.LazyBuf
import Derived.Deep.MidRow
namespace Go.Proofs.YtfaameimocjaiaaDoor
open Go.RowKit

theorem Tryd.size64 : (Tryd.prog.info? 2).map (·.size) = some 1 := by kernel_rfl

/-- 'copy(b[o:], a)', where there is room -/
theorem run_copyInts {B : Nat} {w : World} {g o dLen dCap : Nat} {v : Value} {l row : List Int} (hg : VRow w g (ints row)) (hv : IRow B w v l) (hd : l.length ≤ dLen) (ho : o + l.length ≤ row.length) (ty : TypeId) :
    (Builtin.copy_ #[33, 33] ty #[.slice (some ⟨g, o, none⟩) dLen dCap, v]).run Tryd.prog w = .ok (goInt l.length) (w.setCells g o (ints l)) ∧
      VRow (w.setCells g o (ints l)) g (ints (row.take o ++ l ++ row.drop (o + l.length))) ∧ (∀ C : Nat, C ≤ g → Below C w (w.setCells g o (ints l))) := by
  have hsome : ∀ j, j < (ints l).length → (w.cell? ⟨g, o + j, none⟩).isSome = true := fun j hj => by
    rw [ints_length] at hj
    rw [(hg.2 (o + j) (by rw [ints_length]; omega)).1]; rfl
  have hfroz : ∀ j, j < (ints l).length → w.frozen? ⟨g, o + j, none⟩ = false := fun j hj => by
    rw [ints_length] at hj
    exact (hg.2 (o + j) (by rw [ints_length]; omega)).2
  refine ⟨?_, ⟨?_, fun j hj => ⟨?_, ?_⟩⟩, fun C hC => below_setCells hC _ _ _ (Below.refl _ _)⟩
  · obtain ⟨A, cap, rfl, _, hc⟩ := hv
    by_cases h0 : l.length = 0
    · rw [h0, show l = [] from List.length_eq_zero_iff.1 h0]
      exact run_copy_none w _ _ ty 2 _ _ _ _ _ _ Tryd.underlying33 Tryd.size64 (by simp)
    · obtain ⟨b, off, rfl, _, _, _⟩ := hc 0 (by omega)
      have h := run_copy_cells (P := Tryd.prog) w 33 33 ty 2 g o dLen dCap ⟨b, off, none⟩ l.length cap (ints l) Tryd.underlying33 Tryd.size64 (by rw [ints_length]; simp only [Nat.min_def]; split <;> omega)
        (fun j u hu => by
          have hj : j < l.length := by have := (List.getElem?_eq_some_iff.1 hu).1; rwa [ints_length] at this
          obtain ⟨b', off', e, _, _, h3⟩ := hc j hj
          simp only [Option.some.injEq, Addr.mk.injEq, and_true] at e
          obtain ⟨rfl, rfl⟩ := e
          rw [Addr.add_lit, h3, ← hu]
          simp [ints, hj]) hsome hfroz (fun u hu => by simp [ints] at hu; obtain ⟨a, _, rfl⟩ := hu; rfl)
      rwa [ints_length] at h
  · have := (below_setCells (B := 0) (b := g) (Nat.zero_le _) (ints l) o w (Below.refl _ _)).size
    have h1 := hg.1
    omega
  · rw [ints_length] at hj
    have hjl : j < row.length := by simp at hj; omega
    by_cases h1 : j < o
    · rw [World.cell?_setCells_out g _ _ _ _ (fun _ _ => .inl (by exact h1)), (hg.2 j (by rw [ints_length]; exact hjl)).1]
      simp [ints, show j < min o row.length by omega]
    · by_cases h2 : j < o + l.length
      · obtain ⟨i, rfl⟩ : ∃ i, j = o + i := ⟨j - o, by omega⟩
        rw [World.cell?_setCells_in g _ _ _ hsome i (by rw [ints_length]; omega)]
        simp [ints, show min o row.length = o by omega, show i < l.length by omega]
      · rw [World.cell?_setCells_out g _ _ _ _ (fun _ _ => .inr (by show o + (ints l).length ≤ j; rw [ints_length]; omega)), (hg.2 j (by rw [ints_length]; exact hjl)).1]
        simp only [ints, List.getElem_map, Option.some.injEq]
        congr 1
        rw [List.getElem_append_right (by simp; omega), List.getElem_drop]
        congr 1
        simp
        omega
  · rw [ints_length] at hj
    have hjl : j < row.length := by simp at hj; omega
    rw [World.frozen?_setCells]
    exact (hg.2 j (by rw [ints_length]; exact hjl)).2

/-- a frame's block -/
def layRow (lo : Nat) (l st : List Int) : List Int := (l ++ List.replicate (lo - l.length) 0) ++ (st ++ List.replicate (max 8 st.length - st.length) 0)

set_option maxRecDepth 100000 in
set_option maxHeartbeats 1600000 in
theorem implLay {B : Nat} (f pc : Int) (lo : Nat) (v u : Value) (l st : List Int) (w : World) (hv : IRow B w v l) (hu : IRow B w u st) (hl : l.length ≤ lo) (hlo : lo ≤ 1048576) (hst : st.length ≤ 1048576) :
    Calls Tryd.prog 65 #[.int .i64 f, .int .i64 pc, .int .i64 lo, v, u] w fun e w' => ∃ g, e = .returned (.agg #[.int .i64 f, .int .i64 pc, .slice (some ⟨g, 0, none⟩) lo lo, .slice (some ⟨g, lo, none⟩) st.length (max 8 st.length)]) ∧ w.heap.size ≤ g ∧ VRow w' g (ints (layRow lo l st)) ∧ Below w.heap.size w w' := by
  have Hv : Hid (IRow B w v l) := hv
  have Hu : Hid (IRow B w u st) := hu
  obtain ⟨A, cap, rfl⟩ := hv.form
  obtain ⟨D, dap, rfl⟩ := hu.form
  clear hv hu
  obtain ⟨i0, hi, hz0, hz1, hz2⟩ := info_parts Tryd.info64
  obtain ⟨mx, hmx⟩ : ∃ mx, mx = max 8 st.length := ⟨_, rfl⟩
  have hmk := fun (W : World) => run_makeSlice (P := Tryd.prog) W 33 2 i0 _ Tryd.underlying33 hi hz0 .i64 .i64 (lo + mx : Nat) (lo + mx : Nat) (by omega) (by omega) (by rw [hz1]; simp; omega) (by rw [hz2]; omega) (by omega)
  simp only [hz1, Int.toNat_natCast, Nat.mul_one] at hmk
  have Hmx : Hid (mx = max 8 st.length) := hmx
  obtain ⟨W0, hW0⟩ : ∃ W0, W0 = (w.alloc (.cells #[.int .i64 0, .int .i64 0, .slice none 0 0, .slice none 0 0] 71)).alloc (.cells (madeCells #[Value.int .i64 0] (lo + mx)) 2) := ⟨_, rfl⟩
  have hb0 : Below w.heap.size w W0 := by rw [hW0]; exact ((Below.refl _ _).alloc (Nat.le_refl _) _).alloc (by simp) _
  have hrow0 : VRow W0 (w.heap.size + 1) (ints (List.replicate (lo + mx) 0)) := by
    have y := vrow_new (w.alloc (.cells #[.int .i64 0, .int .i64 0, .slice none 0 0, .slice none 0 0] 71)) (madeCells #[Value.int .i64 0] (lo + mx)) 2
    rw [toList_madeCells_one] at y
    rw [hW0, show ints (List.replicate (lo + mx) 0) = List.replicate (lo + mx) (.int .i64 0) by simp [ints]]
    simpa using y
  obtain ⟨hcp1, hrow1, hbel1⟩ := run_copyInts (dLen := lo + mx) (dCap := lo + mx) (o := 0) hrow0 (Hv.out.below hb0) (by omega) (by simp; omega) 3
  obtain ⟨W1, hW1⟩ : ∃ W1, W1 = W0.setCells (w.heap.size + 1) 0 (ints l) := ⟨_, rfl⟩
  rw [← hW1] at hcp1 hrow1 hbel1
  have hb1 : Below w.heap.size w W1 := hb0.trans (hbel1 _ (by omega))
  obtain ⟨hcp2, hrow2, hbel2⟩ := run_copyInts (dLen := mx) (dCap := mx) (o := lo) hrow1 (Hu.out.below hb1) (by omega) (by simp; omega) 3
  obtain ⟨W2, hW2⟩ : ∃ W2, W2 = W1.setCells (w.heap.size + 1) lo (ints st) := ⟨_, rfl⟩
  rw [← hW2] at hcp2 hrow2 hbel2
  have hb2 : Below w.heap.size w W2 := hb1.trans (hbel2 _ (by omega))
  have hfin : layRow lo l st = (((List.replicate (lo + mx) (0 : Int)).take 0 ++ l ++ (List.replicate (lo + mx) (0 : Int)).drop (0 + l.length)).take lo ++ st ++ ((List.replicate (lo + mx) (0 : Int)).take 0 ++ l ++ (List.replicate (lo + mx) (0 : Int)).drop (0 + l.length)).drop (lo + st.length)) := by
    have h1 : (List.replicate (lo + mx) (0 : Int)).drop (0 + l.length) = List.replicate (lo + mx - l.length) 0 := by rw [List.drop_replicate, Nat.zero_add]
    rw [h1, List.take_zero, List.nil_append, List.take_append, List.drop_append, List.take_of_length_le (by omega), List.take_replicate, List.drop_of_length_le (by omega), List.drop_replicate, List.nil_append]
    unfold layRow
    rw [← hmx, show min (lo - l.length) (lo + mx - l.length) = lo - l.length by omega, show lo + mx - l.length - (lo + st.length - l.length) = mx - st.length by omega]
    simp
  have HR2 : Hid (VRow W2 (w.heap.size + 1) (ints (layRow lo l st))) := by rw [hfin]; exact hrow2
  have Hb2 : Hid (Below w.heap.size w W2) := hb2
  have HRz : Hid (Box W2 w.heap.size #[.int .i64 0, .int .i64 0, .slice none 0 0, .slice none 0 0] ∧ ∀ j, j < 4 → W2.frozen? ⟨w.heap.size, j, none⟩ = false) := by
    have hbb := (hbel1 (w.heap.size + 1) (Nat.le_refl _)).trans (hbel2 (w.heap.size + 1) (Nat.le_refl _))
    have y := vrow_new w #[.int .i64 0, .int .i64 0, .slice none 0 0, .slice none 0 0] 71
    have hal : Below (w.alloc (.cells #[.int .i64 0, .int .i64 0, .slice none 0 0, .slice none 0 0] 71)).heap.size (w.alloc (.cells #[.int .i64 0, .int .i64 0, .slice none 0 0, .slice none 0 0] 71)) W0 := by rw [hW0]; exact (Below.refl _ _).alloc (Nat.le_refl _) _
    have y0 := y.below hal
    have b0 := (box_new w #[.int .i64 0, .int .i64 0, .slice none 0 0, .slice none 0 0] 71).below hal
    refine ⟨⟨Nat.lt_of_lt_of_le b0.1 hbb.size, fun j => by rw [hbb.cell (by show w.heap.size < w.heap.size + 1; omega)]; exact b0.2 j⟩, fun j hj => ?_⟩
    rw [hbb.frozen (by show w.heap.size < w.heap.size + 1; omega)]
    exact (y0.2 j (by simpa using hj)).2
  clear hW1 hW2 hrow0 hrow1 hrow2 hbel1 hbel2 hb0 hb1 hb2 hfin hz0 hz1 hz2 hi
  subst hW0
  by_cases h8 : 8 < st.length
  · have hm8 : mx = st.length := by omega
    subst hm8
    rw [show max 8 st.length = st.length by omega]
    have hc8 : ((lo + st.length : Nat) : Int) = (lo : Int) + st.length := by omega
    have h8' : (8 : Int) < st.length := by omega
    have hs0 : st.length ≠ 0 := by omega
    have hs0' : ¬ lo + st.length = lo := by omega
    rw [hc8] at hmk
    clear hmx hc8
    go_enter Tryd.func65, Tryd.ntmps65
    go_wp2_with fail
    clear hcp1 hcp2 hmk
    have q0 := HRz.out.1.2 0
    have q1 := HRz.out.1.2 1
    have q2 := HRz.out.1.2 2
    have q3 := HRz.out.1.2 3
    have f0 := HRz.out.2 0 (by omega)
    have f1 := HRz.out.2 1 (by omega)
    have f2 := HRz.out.2 2 (by omega)
    have f3 := HRz.out.2 3 (by omega)
    have z0 := HRz.out.1.1
    simp at q0 q1 q2 q3
    go_region
    go_wp2_with fail
    refine bodyPost_ret (v := .agg #[.int .i64 f, .int .i64 pc, .slice (some ⟨w.heap.size + 1, 0, none⟩) lo lo, .slice (some ⟨w.heap.size + 1, lo, none⟩) st.length st.length]) (by simp [results, Tryd.results65, go_sem, q0, q1, q2, q3]) rfl ⟨w.heap.size + 1, rfl, by omega, ?_, ?_⟩
    · exact ((((HR2.out.set_far _ _ (by simp)).set_far _ _ (by simp)).set_far _ _ (by simp)).set_far _ _ (by simp)).below (Below.refl _ _).drew
    · exact ((((Hb2.out.setCell (by simp) _).setCell (by simp) _).setCell (by simp) _).setCell (by simp) _).drew
  · have hm8 : mx = 8 := by omega
    subst hm8
    rw [show max 8 st.length = 8 by omega]
    have hc8 : ((lo + 8 : Nat) : Int) = (lo : Int) + 8 := by omega
    rw [hc8] at hmk
    clear hmx hc8
    go_enter Tryd.func65, Tryd.ntmps65
    go_wp2_with fail
    clear hcp1 hcp2 hmk
    have q0 := HRz.out.1.2 0
    have q1 := HRz.out.1.2 1
    have q2 := HRz.out.1.2 2
    have q3 := HRz.out.1.2 3
    have f0 := HRz.out.2 0 (by omega)
    have f1 := HRz.out.2 1 (by omega)
    have f2 := HRz.out.2 2 (by omega)
    have f3 := HRz.out.2 3 (by omega)
    have z0 := HRz.out.1.1
    simp at q0 q1 q2 q3
    have hs8 : (st.length : Int) ≤ 8 := by omega
    go_region
    go_wp2_with fail
    refine bodyPost_ret (v := .agg #[.int .i64 f, .int .i64 pc, .slice (some ⟨w.heap.size + 1, 0, none⟩) lo lo, .slice (some ⟨w.heap.size + 1, lo, none⟩) st.length 8]) (by simp [results, Tryd.results65, go_sem, q0, q1, q2, q3]) rfl ⟨w.heap.size + 1, rfl, by omega, ?_, ?_⟩
    · exact ((((HR2.out.set_far _ _ (by simp)).set_far _ _ (by simp)).set_far _ _ (by simp)).set_far _ _ (by simp)).below (Below.refl _ _).drew
    · exact ((((Hb2.out.setCell (by simp) _).setCell (by simp) _).setCell (by simp) _).setCell (by simp) _).drew
end Go.Proofs.YtfaameimocjaiaaDoor
