/- slices.Insert of one number where there is room. -/
import Derived.Test.YtijgonjnmibifaaGreatDoorInsertA
namespace Go.Proofs.YtijgonjnmibifaaGreatDoor
open Go.RowKit Go.Lib

set_option maxRecDepth 100000 in
set_option maxHeartbeats 1600000 in
theorem insertShift {B : Nat} (b off cap : Nat) (zs : List Int) (i : Nat) (x : Int) (vb : Nat) (w : World) (h : OwnAt B w b off cap zs) (hi : i ≤ zs.length) (hin' : i < zs.length) (hc : zs.length + 1 ≤ cap) (hl : zs.length ≤ 1048576) (_ : B ≤ w.heap.size)
    (hv : w.heap[vb]? = some (.cells #[.int .i64 x] 2 (0, 0))) (hne : vb ≠ b) :
    Calls Tryz.prog 126 #[.slice (some ⟨b, off, none⟩) zs.length cap, .int .i64 i, .slice (some ⟨vb, 0, none⟩) 1 1] w fun e w' =>
      ∃ b' off' cap', e = .returned (.slice (some ⟨b', off', none⟩) (zs.length + 1) cap') ∧ OwnAt B w' b' off' cap' (putAt zs i x) ∧ w.grownBy w' (some b) ∧ (b' = b ∨ w.heap.size ≤ b') := by
  have Hh : Hid (OwnAt B w b off cap zs) := h
  have htop : cap ≤ 9223372036854775807 := h.top
  have hroom := h.room
  have hpl := putAt_length zs i x hi
  have hpg := putAt_get zs i x hi
  have Hpl : Hid (_ = _) := hpl
  have Hpg : Hid (∀ j (hj : j < (putAt zs i x).length), (j < i → zs[j]? = some (putAt zs i x)[j]) ∧ (j = i → (putAt zs i x)[j] = x) ∧ (i < j → zs[j - 1]? = some (putAt zs i x)[j])) := hpg
  have Hv : Hid (w.heap[vb]? = some (.cells #[.int .i64 x] 2 (0, 0))) := hv
  have hvc : w.cell? ⟨vb, 0, none⟩ = some (.int .i64 x) := by simp [World.cell?, hv]
  have hvs : ∀ j u, [Value.int .i64 x][j]? = some u → w.cell? ((⟨vb, 0, none⟩ : Addr).add j) = some u := fun j u hj => by
    cases j with
    | zero => simp at hj; subst hj; rw [Addr.add_lit]; exact hvc
    | succ j => simp at hj
  have hv1 : ∀ u ∈ [Value.int .i64 x], u.oneCell' = true := fun u hu => by simp at hu; subst hu; rfl
  obtain ⟨i0, hi0, hz0, hzs, hzb⟩ := info_parts Tryz.info64
  have hsz1 : (Tryz.prog.info? 2).map (·.size) = some 1 := by rw [hi0]; simp [hzs]
  have hsrc : Src Tryz.prog 1 106 (.slice (some ⟨vb, 0, none⟩) 1 1) 1 [.int .i64 x] w := Src.ofSlice w Tryz.underlying106 ⟨vb, 0, none⟩ 1 1 [.int .i64 x] (by simp) hvs hv1
  have hold : ∀ k, k ≤ zs.length → (Builtin.firstCells i0.size k (.slice (some ⟨b, off, none⟩) k cap)).run Tryz.prog w.drew = .ok (ints (zs.take k)).toArray w.drew := fun k hk => by
    rw [hzs]
    exact run_firstCells_some w.drew 1 k ⟨b, off, none⟩ k cap (ints (zs.take k)) (by simp [ints]; omega) (fun j v hj => by
      rw [Addr.add_lit]
      have hj' : j < k := by
        have := (List.getElem?_eq_some_iff.1 hj).1
        simp [ints] at this
        omega
      have := h.cells j (by omega)
      show w.cell? _ = _
      rw [this, ← hj]
      simp [ints, hj', show j < zs.length by omega])
  clear h hv hpl hpg
  have hdl : (ints (zs.drop i)).length = zs.length - i := by simp [ints]
  have hz2 : ¬ ((i : Int) = (zs.length : Int)) := by omega
  have hcs : ∀ j u, (ints (zs.drop i))[j]? = some u → w.cell? ⟨b, off + (i + j), none⟩ = some u := fun j u hj => by
    have hj' := (List.getElem?_eq_some_iff.1 hj).1
    rw [hdl] at hj'
    rw [Hh.out.cells (i + j) (by omega), ← hj]
    simp [ints, show i + j < zs.length by omega]
  obtain ⟨tB, kB, hsb, hkB, _⟩ := World.shape?_of_cell? (Hh.out.cells 0 (by omega))
  have hsa : w.shape? vb = some (2, 1) := by simp [World.shape?, Hv.out]
  have hfa : ∀ o, w.frozen? ⟨vb, o, none⟩ = false := fun o => by simp [World.frozen?, Hv.out]
  have hov : ∀ lb cb, (callFunc 143 #[.slice (some ⟨vb, 0, none⟩) 1 1, .slice (some ⟨b, off + (i + 1), none⟩) lb cb]).run Tryz.prog w = .ok (.value (.bool false)) w := fun lb cb => by
    rw [run_callFunc_extern Tryz.func143 (by kernel_rfl) (by kernel_rfl) (by kernel_rfl) (e := Extern.SlicesOverlaps.overlaps #[106, 106] #[4]) (by kernel_rfl),
      Lib.run_overlaps_apart w 106 4 2 Tryz.underlying106 1 Tryz.sizeOf2 ⟨vb, 0, none⟩ ⟨b, off + (i + 1), none⟩ 1 1 lb cb hne 2 tB 1 kB hsa hsb (by omega) (hfa 0) (hfa 1)]
    rfl
  have hcp1 : ∀ ty dc sc, (Builtin.copy_ #[106, 106] ty #[.slice (some ⟨b, off + (i + 1), none⟩) (zs.length + 1 - (i + 1)) dc, .slice (some ⟨b, off + i, none⟩) (zs.length + 1 - i) sc]).run Tryz.prog w.drew = .ok (goInt (ints (zs.drop i)).length) (w.drew.setCells b (off + (i + 1)) (ints (zs.drop i))) := fun ty dc sc =>
    run_copy_cells w.drew _ _ ty 2 b (off + (i + 1)) (zs.length + 1 - (i + 1)) dc ⟨b, off + i, none⟩ (zs.length + 1 - i) sc (ints (zs.drop i)) Tryz.underlying106 hsz1 (by rw [hdl]; simp only [Nat.min_def]; split <;> omega)
      (fun j v hj => by rw [Addr.add_lit, Nat.add_assoc]; exact hcs j v hj)
      (fun j hj => by rw [Nat.add_assoc]; exact (Hh.out.spare _ (by omega)).1) (fun j hj => by rw [Nat.add_assoc]; exact (Hh.out.spare _ (by omega)).2) (ints_one _)
  obtain ⟨hm1, hm2⟩ := Hh.out.shift i x hin' hc
  have Hm1 : Hid (OwnAt B (w.setCells b (off + (i + 1)) (ints (zs.drop i))) b off cap (putAt zs i zs[i])) := hm1
  have Hm2 : Hid (OwnAt B ((w.setCells b (off + (i + 1)) (ints (zs.drop i))).setCells b (off + i) (ints [x])) b off cap (putAt zs i x)) := hm2
  have Hg2 : Hid (w.grownBy ((w.setCells b (off + (i + 1)) (ints (zs.drop i))).setCells b (off + i) (ints [x])) (some b)) := grown_trans (grown_setCells _ _ _ _) (grown_setCells _ _ _ _)
  obtain ⟨W1, hW1⟩ : ∃ W1, W1 = w.setCells b (off + (i + 1)) (ints (zs.drop i)) := ⟨_, rfl⟩
  have hcp2 : ∀ (W : World), (∀ y, W.cell? y = W1.cell? y) → (∀ y, W.frozen? y = W1.frozen? y) → ∀ ty dc, (Builtin.copy_ #[106, 106] ty #[.slice (some ⟨b, off + i, none⟩) (zs.length + 1 - i) dc, .slice (some ⟨vb, 0, none⟩) 1 1]).run Tryz.prog W = .ok (goInt 1) (W.setCells b (off + i) (ints [x])) := fun W hWc hWf ty dc =>
    run_copy_cells W _ _ ty 2 b (off + i) (zs.length + 1 - i) dc ⟨vb, 0, none⟩ 1 1 (ints [x]) Tryz.underlying106 hsz1 (by simp [ints]; simp only [Nat.min_def]; split <;> omega)
      (fun j v hj => by
        rw [Addr.add_lit, hWc, hW1, World.cell?_setCells_out b _ _ _ _ (fun e _ => absurd e hne)]
        have := hvs j v hj
        rwa [Addr.add_lit] at this)
      (fun j hj => by rw [hWc, hW1, Nat.add_assoc]; simp [ints] at hj; subst hj; exact (Hm1.out.spare i (by omega)).1) (fun j hj => by rw [hWf, hW1, Nat.add_assoc]; simp [ints] at hj; subst hj; exact (Hm1.out.spare i (by omega)).2) (ints_one _)
  have hcp2' := fun ty dc => hcp2 W1.drew (fun _ => rfl) (fun _ => rfl) ty dc
  clear hcp2
  have hcp1' : ∀ ty dc sc, (Builtin.copy_ #[106, 106] ty #[.slice (some ⟨b, off + (i + 1), none⟩) (zs.length - i) dc, .slice (some ⟨b, off + i, none⟩) (zs.length + 1 - i) sc]).run Tryz.prog w.drew = .ok (goInt (ints (zs.drop i)).length) W1.drew := fun ty dc sc => by
    have := hcp1 ty dc sc
    rw [show zs.length + 1 - (i + 1) = zs.length - i by omega] at this
    rw [this, hW1, drew_setCells]
  have HW1 : Hid (W1 = w.setCells b (off + (i + 1)) (ints (zs.drop i))) := hW1
  clear hcp1 hW1 hcs hvs hv1 hsrc hold hm1 hm2 hsa hsb hfa
  have hw1 : IntKind.i64.wrap ((i : Int) + 1) = (i : Int) + 1 := by rw [IntKind.wrap_i64]; omega
  have hb1 : (0 : Int) ≤ (i : Int) + 1 := by omega
  have htn : ((i : Int) + 1).toNat = i + 1 := by omega
  have hb2 : ¬ (cap = i + 1) := by omega
  have hb4 : ¬ (cap = i) := by omega
  have hb3 : (i : Int) ≤ (zs.length : Int) + 1 := by omega
  go_enter Tryz.func126, Tryz.ntmps126
  go_wp2_with (simp only [hov])
  go_region_law (refine step_copy_runI rfl _ _ 106 106 rfl _ _ (by simp [Act.eval, Act.put]) (by simp [Act.eval, Act.put]) (hcp1' _ _ _) ?_)
  go_wp2_with fail
  go_ret
  refine ⟨b, off, cap, rfl, ?_, ?_, .inl rfl⟩
  · rw [← HW1.out] at Hm2
    exact Hm2.out.kept (Nat.le_refl _) rfl
  · rw [← HW1.out] at Hg2
    exact grown_trans Hg2.out (grown_drew _ _)

end Go.Proofs.YtijgonjnmibifaaGreatDoor
