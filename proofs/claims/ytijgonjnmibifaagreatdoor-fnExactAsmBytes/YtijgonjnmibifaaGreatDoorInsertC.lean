/- slices.Insert of one number where there is no room. -/
import Derived.Test.YtijgonjnmibifaaGreatDoorInsertA
namespace Go.Proofs.YtijgonjnmibifaaGreatDoor
open Go.RowKit Go.Lib

set_option maxRecDepth 100000 in
set_option maxHeartbeats 1600000 in
theorem insertGrow {B : Nat} (b off cap : Nat) (zs : List Int) (i : Nat) (x : Int) (vb : Nat) (w : World) (h : OwnAt B w b off cap zs) (hi : i ≤ zs.length) (hin' : i < zs.length) (hc : ¬ zs.length + 1 ≤ cap) (hl : zs.length ≤ 1048576) (hB : B ≤ w.heap.size)
    (hv : w.heap[vb]? = some (.cells #[.int .i64 x] 2 (0, 0))) (_ : vb ≠ b) :
    Calls Tryz.prog 126 #[.slice (some ⟨b, off, none⟩) zs.length cap, .int .i64 i, .slice (some ⟨vb, 0, none⟩) 1 1] w fun e w' =>
      ∃ b' off' cap', e = .returned (.slice (some ⟨b', off', none⟩) (zs.length + 1) cap') ∧ OwnAt B w' b' off' cap' (putAt zs i x) ∧ w.grownBy w' (some b) ∧ (b' = b ∨ w.heap.size ≤ b') := by
  have Hh : Hid (OwnAt B w b off cap zs) := h
  have htop : cap ≤ 9223372036854775807 := h.top
  have hroom := h.room
  have hpl := putAt_length zs i x hi
  have hpg := putAt_get zs i x hi
  have Hpl : Hid (_ = _) := hpl
  have Hpg : Hid (∀ j (hj : j < (putAt zs i x).length), (j < i → zs[j]? = some (putAt zs i x)[j]) ∧ (j = i → (putAt zs i x)[j] = x) ∧ (i < j → zs[j - 1]? = some (putAt zs i x)[j])) := hpg
  have Hv : Hid (w.heap[vb]? = some (.cells #[.int .i64 x] 2 (0, 0))) := hv
  have hvc : w.cell? ⟨vb, 0, none⟩ = some (.int .i64 x) := by simp [World.cell?, hv]
  have hvs : ∀ j u, [Value.int .i64 x][j]? = some u → w.cell? ((⟨vb, 0, none⟩ : Addr).add j) = some u := fun j u hj => by
    cases j with
    | zero => simp at hj; subst hj; rw [Addr.add_lit]; exact hvc
    | succ j => simp at hj
  have hv1 : ∀ u ∈ [Value.int .i64 x], u.oneCell' = true := fun u hu => by simp at hu; subst hu; rfl
  obtain ⟨i0, hi0, hz0, hzs, hzb⟩ := info_parts Tryz.info64
  have hsz1 : (Tryz.prog.info? 2).map (·.size) = some 1 := by rw [hi0]; simp [hzs]
  have hsrc : Src Tryz.prog 1 106 (.slice (some ⟨vb, 0, none⟩) 1 1) 1 [.int .i64 x] w := Src.ofSlice w Tryz.underlying106 ⟨vb, 0, none⟩ 1 1 [.int .i64 x] (by simp) hvs hv1
  have hold : ∀ k, k ≤ zs.length → (Builtin.firstCells i0.size k (.slice (some ⟨b, off, none⟩) k cap)).run Tryz.prog w.drew = .ok (ints (zs.take k)).toArray w.drew := fun k hk => by
    rw [hzs]
    exact run_firstCells_some w.drew 1 k ⟨b, off, none⟩ k cap (ints (zs.take k)) (by simp [ints]; omega) (fun j v hj => by
      rw [Addr.add_lit]
      have hj' : j < k := by
        have := (List.getElem?_eq_some_iff.1 hj).1
        simp [ints] at this
        omega
      have := h.cells j (by omega)
      show w.cell? _ = _
      rw [this, ← hj]
      simp [ints, hj', show j < zs.length by omega])
  clear h hv hpl hpg
  have hdl : (ints (zs.drop i)).length = zs.length - i := by simp [ints]
  have hz2 : ¬ ((i : Int) = (zs.length : Int)) := by omega
  have hcs : ∀ j u, (ints (zs.drop i))[j]? = some u → w.cell? ⟨b, off + (i + j), none⟩ = some u := fun j u hj => by
    have hj' := (List.getElem?_eq_some_iff.1 hj).1
    rw [hdl] at hj'
    rw [Hh.out.cells (i + j) (by omega), ← hj]
    simp [ints, show i + j < zs.length by omega]
  have hkk : (zs.length : Int) + 1 - (i : Int) = ((zs.length + 1 - i : Nat) : Int) := by omega
  have hik : i + (zs.length + 1 - i) = zs.length + 1 := by omega
  have hrz : ∀ ty, (Builtin.append_ #[106, 3] ty #[.slice (some ⟨b, off, none⟩) i cap, .int .i64 ((zs.length : Int) + 1 - (i : Int))]).run Tryz.prog w =
      .ok (.slice (some ⟨w.heap.size, 0, none⟩) (zs.length + 1) (grownCap w (zs.length + 1) cap 2)) (w.drew.alloc (.cells ((ints (zs.take i)).toArray ++ Builtin.zeroCells (Value.int .i64 0).cells (zs.length + 1 - i) ++ Builtin.zeroCells (Value.int .i64 0).cells (grownCap w (zs.length + 1) cap 2 - (zs.length + 1))) 2)) := fun ty => by
    have h := Lib.run_append_grow_zeros w 106 3 ty 2 i0 _ .i64 .i64 Tryz.underlying106 Tryz.underlying3 hi0 hz0 (some ⟨b, off, none⟩) i cap (ints (zs.take i)) (hold i (by omega)) (zs.length + 1 - i) (by omega) (by omega) (by omega) (by omega) (by rw [hzb]; omega) (by rw [hzb, hik]; exact growslice_fits (by omega) (by omega))
    rw [hik] at h
    rw [hkk]
    exact h
  obtain ⟨G, hG⟩ : ∃ G, G = grownCap w (zs.length + 1) cap 2 := ⟨_, rfl⟩
  have hGe : zs.length + 1 ≤ G := by rw [hG]; exact grownCap_ge _ _ _ _
  have hGm : G ≤ maxLen := by rw [hG]; exact grownCap_le_maxLen _ _ _ _ (by unfold maxLen; omega)
  rw [← hG] at hrz
  obtain ⟨W1, hW1⟩ : ∃ W1, W1 = w.alloc (.cells ((ints (zs.take i)).toArray ++ Builtin.zeroCells (Value.int .i64 0).cells (zs.length + 1 - i) ++ Builtin.zeroCells (Value.int .i64 0).cells (G - (zs.length + 1))) 2) := ⟨_, rfl⟩
  have hrz' : ∀ ty, (Builtin.append_ #[106, 3] ty #[.slice (some ⟨b, off, none⟩) i cap, .int .i64 ((zs.length : Int) + 1 - (i : Int))]).run Tryz.prog w = .ok (.slice (some ⟨w.heap.size, 0, none⟩) (zs.length + 1) G) W1.drew := fun ty => by rw [hrz ty, hW1]; rfl
  have H1 : Hid (OwnAt B W1 w.heap.size 0 G (zs.take i)) := by
    show OwnAt B W1 w.heap.size 0 G (zs.take i)
    rw [hW1, Array.append_assoc]
    exact OwnAt.fresh (heap_alloc_new w _) hB (by simp [ints, size_zeroCells, Value.cells]; omega) hGm (by simp; omega) fun j hj => arr_ints _ _ j hj
  have HB1 : Hid (Below w.heap.size w W1) := by
    show Below w.heap.size w W1
    rw [hW1]
    exact (Below.refl _ _).alloc (Nat.le_refl _) _
  have hbw : b < w.heap.size := Hh.out.lt
  have hvw : vb < w.heap.size := (Array.getElem?_eq_some_iff.1 Hv.out).1
  have hti : (zs.take i).length = i := by rw [List.length_take]; omega
  have H2 : Hid (OwnAt B (W1.setCells w.heap.size i (ints [x])) w.heap.size 0 G (zs.take i ++ [x])) := by
    have := H1.out.put i [x] (by simp; omega) (zs.take i ++ [x]) (by simp; omega) (fun j hj => by
      have hj' : j < i + 1 := by simp at hj; omega
      by_cases he : j = i
      · refine .inl ⟨by omega, by simp; omega, ?_⟩
        rw [some_get, List.getElem?_append_right (by omega), hti, he]
      · refine .inr ⟨.inl (by omega), ?_⟩
        rw [some_get, List.getElem?_append_left (by omega)])
    rwa [Nat.zero_add] at this
  obtain ⟨W2, hW2⟩ : ∃ W2, W2 = W1.setCells w.heap.size i (ints [x]) := ⟨_, rfl⟩
  rw [← hW2] at H2
  have HB2 : Hid (Below w.heap.size w W2) := by
    show Below w.heap.size w W2
    rw [hW2]
    have hg := grown_setCells w.heap.size (ints [x]) i W1
    exact HB1.out.grown hg HB1.out.size (fun k hk => by cases hk; exact Nat.le_refl _)
  have H3 : Hid (OwnAt B (W2.setCells w.heap.size (i + 1) (ints (zs.drop i))) w.heap.size 0 G (putAt zs i x)) := by
    have := H2.out.put (i + 1) (zs.drop i) (by simp; omega) (putAt zs i x) (by rw [Hpl.out]; exact hGe) (fun j hj => by
      rw [Hpl.out] at hj
      rw [some_get, putAt_at _ _ _ (by omega)]
      by_cases hji : j < i + 1
      · refine .inr ⟨.inl hji, ?_⟩
        by_cases he : j < i
        · rw [if_pos he, List.getElem?_append_left (by omega), List.getElem?_take, if_pos he]
        · rw [if_neg he, if_pos (by omega), List.getElem?_append_right (by omega), hti, show j - i = 0 by omega]
          rfl
      · refine .inl ⟨by omega, by simp; omega, ?_⟩
        rw [if_neg (by omega), if_neg (by omega), List.getElem?_drop]
        congr 1
        omega)
    rwa [Nat.zero_add] at this
  have hcpA : ∀ ty dc, (Builtin.copy_ #[106, 106] ty #[.slice (some ⟨w.heap.size, i, none⟩) (zs.length + 1 - i) dc, .slice (some ⟨vb, 0, none⟩) 1 1]).run Tryz.prog W1.drew = .ok (goInt 1) W2.drew := fun ty dc => by
    have := run_copy_cells (P := Tryz.prog) W1.drew 106 106 ty 2 w.heap.size i (zs.length + 1 - i) dc ⟨vb, 0, none⟩ 1 1 (ints [x]) Tryz.underlying106 hsz1 (by simp [ints]; simp only [Nat.min_def]; split <;> omega)
      (fun j v hj => by
        rw [show W1.drew.cell? ((⟨vb, 0, none⟩ : Addr).add j) = W1.cell? ((⟨vb, 0, none⟩ : Addr).add j) from rfl, Addr.add_lit, HB1.out.cell (by exact hvw)]
        have := hvs j v hj
        rwa [Addr.add_lit] at this)
      (fun j hj => by simp [ints] at hj; subst hj; have := (H1.out.spare i (by omega)).1; rwa [Nat.zero_add] at this) (fun j hj => by simp [ints] at hj; subst hj; have := (H1.out.spare i (by omega)).2; rwa [Nat.zero_add] at this) (ints_one _)
    rw [this, hW2, drew_setCells]
    rfl
  have hcpB : ∀ ty dc sc, (Builtin.copy_ #[106, 106] ty #[.slice (some ⟨w.heap.size, i + 1, none⟩) (zs.length - i) dc, .slice (some ⟨b, off + i, none⟩) (zs.length - i) sc]).run Tryz.prog W2.drew.drew = .ok (goInt (ints (zs.drop i)).length) (W2.setCells w.heap.size (i + 1) (ints (zs.drop i))).drew.drew := fun ty dc sc => by
    have := run_copy_cells (P := Tryz.prog) W2.drew.drew 106 106 ty 2 w.heap.size (i + 1) (zs.length - i) dc ⟨b, off + i, none⟩ (zs.length - i) sc (ints (zs.drop i)) Tryz.underlying106 hsz1 (by rw [hdl]; simp)
      (fun j v hj => by
        rw [show W2.drew.drew.cell? ((⟨b, off + i, none⟩ : Addr).add j) = W2.cell? ((⟨b, off + i, none⟩ : Addr).add j) from rfl, Addr.add_lit, HB2.out.cell (by exact hbw), Nat.add_assoc]
        exact hcs j v hj)
      (fun j hj => by have := (H2.out.spare (i + 1 + j) (by omega)).1; rwa [Nat.zero_add] at this) (fun j hj => by have := (H2.out.spare (i + 1 + j) (by omega)).2; rwa [Nat.zero_add] at this) (ints_one _)
    rw [this, drew_setCells, drew_setCells]
  have HB3 : Hid (Below w.heap.size w (W2.setCells w.heap.size (i + 1) (ints (zs.drop i)))) := HB2.out.grown (grown_setCells w.heap.size _ _ W2) HB2.out.size (fun k hk => by cases hk; exact Nat.le_refl _)
  obtain ⟨W3, hW3⟩ : ∃ W3, W3 = W2.setCells w.heap.size (i + 1) (ints (zs.drop i)) := ⟨_, rfl⟩
  rw [← hW3] at H3 HB3
  simp only [← hW3] at hcpB
  clear hrz hW1 hW2 hW3 hcs hvs hv1 hsrc hold hG hkk hik hti hdl hz2 hbw hvw hvc hi0 hz0 hzs hzb hsz1
  have hw1 : IntKind.i64.wrap ((i : Int) + 1) = (i : Int) + 1 := by rw [IntKind.wrap_i64]; omega
  have hb1 : (0 : Int) ≤ (i : Int) + 1 := by omega
  have htn : ((i : Int) + 1).toNat = i + 1 := by omega
  have hb2 : ¬ (G = i + 1) := by omega
  have hb4 : ¬ (G = i) := by omega
  have hb5 : ¬ (cap = i) := by omega
  have hb3 : (i : Int) ≤ (zs.length : Int) + 1 := by omega
  have hcap : (cap : Int) < (zs.length : Int) + 1 := by omega
  go_enter Tryz.func126, Tryz.ntmps126
  go_wp2_with (at_builtin; refine Lib.wpList_append_run _ rfl _ _ _ _ rfl _ _ rfl rfl _ _ (hrz' _) ?_)
  go_region_law (refine step_copy_runI rfl _ _ 106 106 rfl _ _ (by simp [Act.eval, Act.put]) (by simp [Act.eval, Act.put]) (hcpB _ _ _) ?_)
  go_wp2_with fail
  go_ret
  exact ⟨_, _, _, rfl, H3.out.kept (Nat.le_refl _) rfl, grown_trans (grown_of_below HB3.out) (grown_trans (grown_drew _ _) (grown_drew _ _)), .inr (Nat.le_refl _)⟩

end Go.Proofs.YtijgonjnmibifaaGreatDoor
