/- The law: a drawn number is got back from its bytes, and drawn numbers, one by one. -/
import Derived.Test.YtnnhoobjnnjnhaaGetPut
import Derived.Test.YtnnhoobjnnjnhaaPutsI
import Derived.Test.YtnnhoobjnnjnhaaDraws
import Derived.Laws.StructEq
namespace Go.Proofs.Ytnnhoobjnnjnhaa
open Go.RowKit

theorem specPutB (n : Int) (w : World) (h0 : -9223372036854775808 ≤ n) (h1 : n ≤ 9223372036854775807) :
    Calls Try.prog 11 #[.int .i64 n] w fun e w' => e = .returned (.string ⟨(numB n).toArray⟩) ∧ Below w.heap.size w w' := specPut n w h0 h1

theorem getXY (n : Int) (h0 : -9223372036854775808 ≤ n) (h1 : n ≤ 9223372036854775807) (w : World) :
    Calls Try.prog 12 #[.string ((⟨#[120, 121]⟩ : ByteArray) ++ ⟨(numB n).toArray⟩ ++ ⟨#[122]⟩), .int .i64 2] w fun e w' => e = .returned (.agg #[.int .i64 n, .int .i64 (((numB n).length : Int) + 2), .int .i64 0]) ∧ Below w.heap.size w w' := by
  have hl := numB_length n h0 h1
  have hsz : ((⟨#[120, 121]⟩ : ByteArray) ++ ⟨(numB n).toArray⟩ ++ ⟨#[122]⟩ : ByteArray).size = (numB n).length + 3 := by simp [ByteArray.size]
  have h := implGet ((⟨#[120, 121]⟩ : ByteArray) ++ ⟨(numB n).toArray⟩ ++ ⟨#[122]⟩) 2 w (by rw [hsz]; unfold maxLen; omega)
  have hg := getOut_put ((⟨#[120, 121]⟩ : ByteArray) ++ ⟨(numB n).toArray⟩ ++ ⟨#[122]⟩) 2 n [122] (by rw [hsz]; omega) h0 h1 (by simp)
  have e : ((2 + (numB n).length : Nat) : Int) = ((numB n).length : Int) + 2 := by omega
  rw [e] at hg
  rw [show (((2 : Nat) : Int)) = 2 from rfl] at hg
  rw [hg] at h
  exact h

theorem getCut (n : Int) (h0 : -9223372036854775808 ≤ n) (h1 : n ≤ 9223372036854775807) (w : World) :
    Calls Try.prog 12 #[.string ((⟨(numB n).toArray⟩ : ByteArray).extract 0 ((numB n).length - 1)), .int .i64 0] w fun e w' => e = .returned (.agg #[.int .i64 0, .int .i64 0, .int .i64 4]) ∧ Below w.heap.size w w' := by
  have hl := numB_length n h0 h1
  have he : (⟨(numB n).toArray⟩ : ByteArray).extract 0 ((numB n).length - 1) = ⟨((numB n).take ((numB n).length - 1)).toArray⟩ := by
    apply ByteArray.ext
    apply Array.toList_inj.1
    rw [Lib.extract_data]
    simp
  rw [he]
  have h := implGet ⟨((numB n).take ((numB n).length - 1)).toArray⟩ 0 w (by unfold maxLen; simp [ByteArray.size]; omega)
  rw [getOut_cut n h0 h1] at h
  exact h

theorem numsB_split (zs : List Int) (k : Nat) (h : k < zs.length) : numsB zs = numsTo zs k ++ (numB zs[k] ++ (zs.drop (k + 1)).flatMap numB) := by
  unfold numsB numsTo
  rw [List.append_assoc]
  congr 1
  have e : zs = zs.take k ++ (zs[k] :: zs.drop (k + 1)) := by rw [List.getElem_cons_drop, List.take_append_drop]
  conv => lhs; rw [e]
  rw [List.flatMap_append, List.flatMap_cons]

theorem numsB_length (zs : List Int) (hw : ∀ n ∈ zs, -9223372036854775808 ≤ n ∧ n ≤ 9223372036854775807) (hl : zs.length ≤ 6) : (numsB zs).length ≤ 70 := by
  have h := numsTo_length zs hw (by omega) zs.length (Nat.le_refl _)
  rw [numsTo_all zs zs.length (Nat.le_refl _)] at h
  omega

/-- what the law's loop keeps: the thing told last (block y), the list (block g) -/
def Kept (w wr : World) (y g : Nat) (zs : List Int) (k : Nat) (a : Int) : Prop :=
  (wr.cell? ⟨y, 0, none⟩ = some (.int .i64 a) ∧ wr.cell? ⟨y, 1, none⟩ = some (.int .i64 ((numsTo zs k).length : Int)) ∧ wr.cell? ⟨y, 2, none⟩ = some (.int .i64 0)) ∧
  (wr.frozen? ⟨y, 0, none⟩ = false ∧ wr.frozen? ⟨y, 1, none⟩ = false ∧ wr.frozen? ⟨y, 2, none⟩ = false) ∧
  (∀ i (h : i < zs.length), wr.cell? ⟨g, i, none⟩ = some (.int .i64 zs[i])) ∧ y < wr.heap.size ∧ g < y ∧ w.heap.size ≤ y ∧ Below w.heap.size w wr

theorem Kept.below {w wr w' : World} {y g : Nat} {zs : List Int} {k : Nat} {a : Int} (h : Kept w wr y g zs k a) (hb : Below wr.heap.size wr w') : Kept w w' y g zs k a := by
  obtain ⟨⟨c0, c1, c2⟩, ⟨f0, f1, f2⟩, hc, hy, hg, hwy, hbe⟩ := h
  refine ⟨⟨?_, ?_, ?_⟩, ⟨?_, ?_, ?_⟩, fun i hi => ?_, Nat.lt_of_lt_of_le hy hb.size, hg, hwy, hbe.trans (hb.mono hbe.size)⟩
  · rw [hb.cell (by exact hy)]; exact c0
  · rw [hb.cell (by exact hy)]; exact c1
  · rw [hb.cell (by exact hy)]; exact c2
  · rw [hb.frozen (by exact hy)]; exact f0
  · rw [hb.frozen (by exact hy)]; exact f1
  · rw [hb.frozen (by exact hy)]; exact f2
  · rw [hb.cell (by show g < _; omega)]; exact hc i hi

theorem Kept.drewN {w wr : World} {y g : Nat} {zs : List Int} {k : Nat} {a : Int} (h : Kept w wr y g zs k a) (n : Nat) : Kept w (wr.drewN n) y g zs k a := by
  obtain ⟨h1, h2, h3, h4, h5, h6, h7⟩ := h
  exact ⟨h1, h2, h3, h4, h5, h6, below_drewN h7 n⟩

theorem Kept.store {w wr : World} {y g : Nat} {zs : List Int} {k : Nat} {a0 : Int} (h : Kept w wr y g zs k a0) (a : Int) :
    Kept w (((wr.setCell ⟨y, 0, none⟩ (.int .i64 a)).setCell ⟨y, 1, none⟩ (.int .i64 ((numsTo zs (k + 1)).length : Int))).setCell ⟨y, 2, none⟩ (.int .i64 0)) y g zs (k + 1) a := by
  obtain ⟨⟨c0, c1, c2⟩, ⟨f0, f1, f2⟩, hc, hy, hg, hwy, hbe⟩ := h
  have o01 : ∀ (W : World) (v : Value) (i j : Nat), i ≠ j → (W.setCell ⟨y, i, none⟩ v).cell? ⟨y, j, none⟩ = W.cell? ⟨y, j, none⟩ := fun W v i j hij => World.cell?_setCell_other _ _ _ _ (by intro e; injection e; contradiction)
  have og : ∀ (W : World) (v : Value) (i j : Nat), (W.setCell ⟨y, i, none⟩ v).cell? ⟨g, j, none⟩ = W.cell? ⟨g, j, none⟩ := fun W v i j => World.cell?_setCell_other _ _ _ _ (by intro e; injection e; omega)
  refine ⟨⟨?_, ?_, ?_⟩, ⟨?_, ?_, ?_⟩, fun i hi => ?_, ?_, hg, hwy, ?_⟩
  · exact (o01 _ _ 2 0 (by omega)).trans ((o01 _ _ 1 0 (by omega)).trans (World.cell?_setCell_same _ _ _ c0))
  · exact (o01 _ _ 2 1 (by omega)).trans (World.cell?_setCell_same _ _ _ ((o01 _ _ 0 1 (by omega)).trans c1))
  · exact World.cell?_setCell_same _ _ _ ((o01 _ _ 1 2 (by omega)).trans ((o01 _ _ 0 2 (by omega)).trans c2))
  · exact (World.frozen?_setCell _ _ _ _).trans ((World.frozen?_setCell _ _ _ _).trans ((World.frozen?_setCell _ _ _ _).trans f0))
  · exact (World.frozen?_setCell _ _ _ _).trans ((World.frozen?_setCell _ _ _ _).trans ((World.frozen?_setCell _ _ _ _).trans f1))
  · exact (World.frozen?_setCell _ _ _ _).trans ((World.frozen?_setCell _ _ _ _).trans ((World.frozen?_setCell _ _ _ _).trans f2))
  · exact (og _ _ 2 i).trans ((og _ _ 1 i).trans ((og _ _ 0 i).trans (hc i hi)))
  · simpa [World.setCell] using hy
  · exact ((hbe.setCell hwy _).setCell hwy _).setCell hwy _

theorem getAt (zs : List Int) (k : Nat) (hk : k < zs.length) (hw : ∀ n ∈ zs, -9223372036854775808 ≤ n ∧ n ≤ 9223372036854775807) (hl : zs.length ≤ 6) (w : World) :
    Calls Try.prog 12 #[.string ⟨(numsB zs).toArray⟩, .int .i64 ((numsTo zs k).length : Int)] w fun e w' => e = .returned (.agg #[.int .i64 zs[k], .int .i64 ((numsTo zs (k + 1)).length : Int), .int .i64 0]) ∧ Below w.heap.size w w' := by
  have hz := hw zs[k] (List.getElem_mem hk)
  have hbl := numsB_length zs hw hl
  have h := implGet ⟨(numsB zs).toArray⟩ ((numsTo zs k).length : Int) w (by unfold maxLen; simp [ByteArray.size]; omega)
  have hg := getOut_put ⟨(numsB zs).toArray⟩ (numsTo zs k).length zs[k] ((zs.drop (k + 1)).flatMap numB) (by simp [ByteArray.size]; omega) hz.1 hz.2 (by
    show (numsB zs).drop (numsTo zs k).length = _
    rw [numsB_split zs k hk, List.drop_left])
  rw [hg] at h
  rw [numsTo_succ zs k hk, List.length_append]
  exact h

theorem getFirst (zs : List Int) (hw : ∀ n ∈ zs, -9223372036854775808 ≤ n ∧ n ≤ 9223372036854775807) (hl : zs.length ≤ 6) (w : World) :
    Calls Try.prog 12 #[.string ⟨(numsB zs).toArray⟩, .int .i64 0] w fun e w' => e = .returned (.agg #[.int .i64 (zs.length : Int), .int .i64 ((numsTo zs 0).length : Int), .int .i64 0]) ∧ Below w.heap.size w w' := by
  have hbl := numsB_length zs hw hl
  have h := implGet ⟨(numsB zs).toArray⟩ 0 w (by unfold maxLen; simp [ByteArray.size]; omega)
  have hg := getOut_put ⟨(numsB zs).toArray⟩ 0 (zs.length : Int) (zs.flatMap numB) (by simp [ByteArray.size]; omega) (by omega) (by omega) rfl
  have e : 0 + (numB (zs.length : Int)).length = (numsTo zs 0).length := by simp [numsTo]
  rw [e] at hg
  have h2 : getOut ⟨(numsB zs).toArray⟩ 0 = _ := hg
  rw [h2] at h
  exact h

set_option maxRecDepth 100000 in
set_option maxHeartbeats 1600000 in
theorem lawFnNums (v1 v2 : Value) (z1 z2 : List Int) (w : World) (h1 : Row8 w.heap.size w v1 z1) (h2 : Row8 w.heap.size w v2 z2) (hl1 : (z1.length : Int) ≤ 9223372036854775807) (hl2 : (z2.length : Int) ≤ 9223372036854775807) :
    Calls Try.prog 3 #[v1, v2] w fun e w' => e = .returned (.bool true) ∧ Below w.heap.size w w' := by
  obtain ⟨i0, hi, hz0, hz1, hz2⟩ := info_parts Try.info2
  have H1 : Hid (Row8 w.heap.size w v1 z1) := h1
  have H2 : Hid (Row8 w.heap.size w v2 z2) := h2
  obtain ⟨a1, c1, rfl⟩ := h1.len
  obtain ⟨a2, c2, rfl⟩ := h2.len
  clear h1 h2
  by_cases hb1 : (1048576 : Int) < (z1.length : Int)
  · go_enter Try.func3, Try.ntmps3
    go_wp2
    go_ret
    exact ⟨rfl, Below.refl _ _⟩
  · have hd1 : decide ((1048576 : Int) < (z1.length : Int)) = false := by simpa using hb1
    by_cases hb2 : (1048576 : Int) < (z2.length : Int)
    · go_enter Try.func3, Try.ntmps3
      go_wp2
      go_ret
      exact ⟨rfl, Below.refl _ _⟩
    · have hd2 : decide ((1048576 : Int) < (z2.length : Int)) = false := by simpa using hb2
      go_enter Try.func3, Try.ntmps3
      go_wp2_with fail
      refine (drawPut _ z1 _ H1.out (by omega)).mono ?_
      rintro e w1 ⟨n, rfl, hn0, hn1, hbe1⟩
      have Hbe1 : Hid (Below w.heap.size w w1) := hbe1
      clear hbe1
      go_wp2_with fail
      refine (implPutB n _ hn0 hn1).mono ?_
      rintro e w2 ⟨rfl, hbe2⟩
      have Hbe2 : Hid (Below w.heap.size w w2) := Hbe1.out.trans (hbe2.mono Hbe1.out.size)
      clear hbe2 Hbe1
      go_wp2_with fail
      refine (specPutB n _ hn0 hn1).mono ?_
      rintro e w3 ⟨rfl, hbe3⟩
      have Hbe3 : Hid (Below w.heap.size w w3) := Hbe2.out.trans (hbe3.mono Hbe2.out.size)
      clear hbe3 Hbe2
      have hL0 : 1 ≤ (numB n).length := Lib.uvarint_pos _
      have hL1 := numB_length n hn0 hn1
      have hd3 : decide (((numB n).length : Int) < 1) = false := by simp; omega
      have hd4 : decide ((10 : Int) < ((numB n).length : Int)) = false := by simp; omega
      go_wp2_with fail
      refine (getXY n hn0 hn1 _).mono ?_
      rintro e w4 ⟨rfl, hbe4⟩
      have Hbe4 : Hid (Below w.heap.size w w4) := Hbe3.out.trans (hbe4.mono Hbe3.out.size)
      clear hbe4 Hbe3 hd3 hd4
      go_wp2_with fail
      refine (getCut n hn0 hn1 _).mono ?_
      rintro e w5 ⟨rfl, hbe5⟩
      have Hbe5 : Hid (Below w.heap.size w w5) := (Hbe4.out.alloc Hbe4.out.size _).trans (hbe5.mono (by have := Hbe4.out.size; simp; omega))
      clear hbe5 Hbe4
      have hfield : ∀ W : World, (Instr.field 26 (.agg #[.int .i64 0, .int .i64 0, .int .i64 4]) 2).run Try.prog W = .ok (.int .i64 4) W := fun W => by kernel_rfl
      go_wp2_with fail
      refine (drawPuts _ z2 _ ((H2.out.below Hbe5.out).raise Hbe5.out.size) (by omega)).mono ?_
      rintro e w6 ⟨g, c, zs, rfl, hzl, hzw, hg, hcell, hbe6⟩
      have Hbe6 : Hid (Below w.heap.size w w6) := Hbe5.out.trans (hbe6.mono Hbe5.out.size)
      have Hzw : Hid (∀ n ∈ zs, -9223372036854775808 ≤ n ∧ n ≤ 9223372036854775807) := hzw
      have Hcell : Hid (∀ i (h : i < zs.length), w6.cell? ⟨g, i, none⟩ = some (.int .i64 zs[i])) := hcell
      clear hbe6 Hbe5 hzw hcell H1 H2 hL0 hL1 hn0 hn1
      go_wp2_with (at_builtin; refine wpList_append_own _ rfl _ _ 28 rfl w6.heap.size 2 i0 (.int .i64 0) 1 8 Try.underlying28 hi hz0 hz1 hz2 rfl (by decide) _ 0 [] rfl (World.ownsRow_lit (base := w6.heap.size) (e := 2) (size := 1) w6 #[] 0 (Nat.le_refl _) (Nat.zero_le _) rfl) ⟨g, 0, none⟩ zs.length c (zs.map (Value.int .i64)) rfl (by simp) ?k1 ?k2 ?k3 ?k4 ?k5 ?_)
      case k1 =>
        intro j u hu
        have hj : j < zs.length := by have := (List.getElem?_eq_some_iff.1 hu).1; simpa using this
        have ha : (⟨g, 0, none⟩ : Addr).add j = ⟨g, j, none⟩ := by simp [Addr.add]; exact fun h => h.symm
        rw [ha, World.cell?_alloc_past _ _ _ hg, Hcell.out j hj, ← hu]
        simp [hj]
      case k2 => exact ints_oneCell _ _
      case k3 => unfold maxLen; omega
      case k4 => omega
      case k5 => simp
      intro v7 w7 hown7 hg7 hnil7
      have hb67 : Below w6.heap.size w6 w7 := ((Below.refl _ _).alloc (Nat.le_refl _) _).grown hg7 (by simp) (fun j hj => by simp [Value.ownBlock] at hj; omega)
      have R7 : Hid (Reads w7 v7 zs) := by
        show Reads w7 v7 zs
        by_cases hz : zs = []
        · subst hz
          rcases hown7.2 with ⟨rfl, _⟩ | ⟨g', cap', cur', rfl, _⟩
          · exact .inl ⟨rfl, _, _, rfl⟩
          · exact .inl ⟨rfl, _, _, rfl⟩
        · rcases hown7 with ⟨q1, q2⟩
          rcases q2 with ⟨_, h0⟩ | ⟨g', cap', cur', rfl, hb', hh', hn', hm', hs', ht'⟩
          · exact absurd (List.eq_nil_of_length_eq_zero h0) hz
          · refine .inr ⟨g', 0, cap', rfl, (Array.getElem?_eq_some_iff.1 hh').1, ?_⟩
            intro i hi
            have hc := World.ownsRow.cellAt (w := w7) (base := w6.heap.size) (e := 2) (size := 1) (g := g') (n := zs.length) (cap := cap') (xs := zs.map (Value.int .i64)) ⟨q1, .inr ⟨g', cap', cur', rfl, hb', hh', hn', hm', hs', ht'⟩⟩ i (by omega)
            rw [Nat.zero_add, hc]
            simp [hi]
      have Hbe7 : Hid (Below w.heap.size w w7) := Hbe6.out.trans (hb67.mono Hbe6.out.size)
      have Hc7 : Hid (∀ i (h : i < zs.length), w7.cell? ⟨g, i, none⟩ = some (.int .i64 zs[i])) := fun i hi => by rw [hb67.cell (by exact hg)]; exact Hcell.out i hi
      have Hg7 : Hid (g < w7.heap.size) := Nat.lt_of_lt_of_le hg hb67.size
      clear hown7 hg7 hnil7 hb67 Hbe6 Hcell hg hfield
      go_wp2_with fail
      refine (implPuts v7 zs _ R7.out Hzw.out (by omega)).mono ?_
      rintro e w8 ⟨rfl, hbe8⟩
      have hno : numsOut zs = ⟨(numsB zs).toArray⟩ := if_neg (by omega)
      rw [hno]
      have Hbe8 : Hid (Below w.heap.size w w8) := Hbe7.out.trans (hbe8.mono Hbe7.out.size)
      have Hc8 : Hid (∀ i (h : i < zs.length), w8.cell? ⟨g, i, none⟩ = some (.int .i64 zs[i])) := fun i hi => by rw [hbe8.cell (by exact Hg7.out)]; exact Hc7.out i hi
      have Hg8 : Hid (g < w8.heap.size) := Nat.lt_of_lt_of_le Hg7.out hbe8.size
      clear hno hbe8 Hbe7 Hc7 Hg7 R7
      go_wp2_with fail
      refine (getFirst zs Hzw.out hzl _).mono ?_
      rintro e w9 ⟨rfl, hbe9⟩
      have Hbe9 : Hid (Below w.heap.size w w9) := Hbe8.out.trans (hbe9.mono Hbe8.out.size)
      have Hc9 : Hid (∀ i (h : i < zs.length), w9.cell? ⟨g, i, none⟩ = some (.int .i64 zs[i])) := fun i hi => by rw [hbe9.cell (by exact Hg8.out)]; exact Hc8.out i hi
      have Hg9 : Hid (g < w9.heap.size) := Nat.lt_of_lt_of_le Hg8.out hbe9.size
      clear hbe9 Hbe8 Hc8 Hg8
      go_wp2_with fail
      go_loopw [11] (fun i wr => ∃ (k : Nat) (a : Int), k ≤ zs.length ∧ i = .int .i64 k ∧ Kept w wr w9.heap.size g zs k a) (fun i _ => zs.length - (intOf i).toNat)
      case atStart =>
        refine ⟨0, zs.length, Nat.zero_le _, rfl, ⟨?_, ?_, ?_⟩, ⟨?_, ?_, ?_⟩, fun i hi => ?_, ?_, Hg9.out, Hbe9.out.size, Hbe9.out.alloc Hbe9.out.size _⟩
        · simp
        · simp
        · simp
        · simp
        · simp
        · simp
        · rw [World.cell?_alloc_past _ _ _ Hg9.out]; exact Hc9.out i hi
        · simp
      case round =>
        obtain ⟨k, a, hk, rfl, hkp⟩ := hrel
        have HK : Hid (Kept w wr w9.heap.size g zs k a) := hkp
        obtain ⟨⟨c0, e1, e2⟩, ⟨f0, f1, f2⟩, hc, hy, hgy, hwy, hbe⟩ := hkp
        by_cases hkl : k < zs.length
        · have Ha : Hid (∀ w, _) := fun w => getAt zs k hkl Hzw.out hzl w
          clear hc hbe
          go_wp2_with fail
          refine (Ha.out _).mono ?_
          rintro e w10 ⟨rfl, hbe10⟩
          have HK10 : Hid (Kept w w10 w9.heap.size g zs k a) := HK.out.below hbe10
          obtain ⟨⟨c0', e1', e2'⟩, ⟨f0', f1', f2'⟩, hc', _, _, _, _⟩ := HK10.out
          clear hc' c0 e1 e2 f0 f1 f2 HK hbe10
          go_wp2_with fail
          have HK11 := HK10.out.store zs[k]
          generalize ((w10.setCell ⟨w9.heap.size, 0, none⟩ (.int .i64 zs[k])).setCell ⟨w9.heap.size, 1, none⟩ (.int .i64 ((numsTo zs (k + 1)).length : Int))).setCell ⟨w9.heap.size, 2, none⟩ (.int .i64 0) = W at HK11
          have HK : Hid (Kept w W w9.heap.size g zs (k + 1) zs[k]) := HK11
          obtain ⟨⟨c0, e1, e2⟩, ⟨f0, f1, f2⟩, hc, _, _, _, _⟩ := HK11
          have hck := hc k hkl
          clear hc c0' e1' e2' f0' f1' f2' HK10
          go_quiet (fail)
          go_wp2
          go_roundw
          case rel => exact ⟨k + 1, zs[k], by omega, by go_num, HK.out.drewN _⟩
          case measure => simp [intOf]; omega
        · have hall : numsTo zs k = numsB zs := numsTo_all zs k (by omega)
          rw [hall] at e1
          clear hc
          go_wp2_with fail
          go_ret
          exact ⟨rfl, hbe⟩
end Go.Proofs.Ytnnhoobjnnjnhaa
