/- slices.Insert of one number into a slice of the call's own. -/
import Derived.Test.YtijgonjnmibifaaGreatDoorOwnS
import Derived.Shelf.Spec.SlicesInsertGrow
import Derived.Deep.RegionLaw
namespace Go.Proofs.YtijgonjnmibifaaGreatDoor
open Go.RowKit Go.Lib

theorem ints_one (zs : List Int) : ∀ v ∈ ints zs, v.oneCell' = true := by
  intro v hv
  obtain ⟨x, _, rfl⟩ := List.mem_map.1 hv
  rfl

def putAt (zs : List Int) (i : Nat) (x : Int) : List Int := zs.take i ++ x :: zs.drop i
theorem putAt_length (zs : List Int) (i : Nat) (x : Int) (hi : i ≤ zs.length) : (putAt zs i x).length = zs.length + 1 := by simp [putAt]; omega
theorem putAt_get (zs : List Int) (i : Nat) (x : Int) (hi : i ≤ zs.length) (j : Nat) (hj : j < (putAt zs i x).length) :
    (j < i → zs[j]? = some (putAt zs i x)[j]) ∧ (j = i → (putAt zs i x)[j] = x) ∧ (i < j → zs[j - 1]? = some (putAt zs i x)[j]) := by
  have hg : ∀ y, (putAt zs i x)[j]? = some y → (putAt zs i x)[j] = y := fun y h => by rw [List.getElem?_eq_getElem hj] at h; exact Option.some.inj h
  have hl : (zs.take i).length = i := by rw [List.length_take]; omega
  refine ⟨fun h => ?_, fun h => ?_, fun h => ?_⟩
  · have h1 : (putAt zs i x)[j]? = zs[j]? := by unfold putAt; rw [List.getElem?_append_left (by omega), List.getElem?_take, if_pos h]
    rw [← h1, List.getElem?_eq_getElem hj]
  · subst h
    refine hg x ?_
    unfold putAt
    rw [List.getElem?_append_right (by omega), hl]
    simp
  · have h1 : (putAt zs i x)[j]? = zs[j - 1]? := by
      unfold putAt
      rw [List.getElem?_append_right (by omega), hl, show j - i = (j - i - 1) + 1 by omega, List.getElem?_cons_succ, List.getElem?_drop]
      congr 1
      omega
    rw [← h1, List.getElem?_eq_getElem hj]

theorem putAt_at (zs : List Int) (i : Nat) (x : Int) (hi : i ≤ zs.length) (j : Nat) : (putAt zs i x)[j]? = if j < i then zs[j]? else if j = i then some x else zs[j - 1]? := by
  have hl : (zs.take i).length = i := by rw [List.length_take]; omega
  unfold putAt
  by_cases h : j < i
  · rw [if_pos h, List.getElem?_append_left (by omega), List.getElem?_take, if_pos h]
  · rw [if_neg h, List.getElem?_append_right (by omega), hl]
    by_cases he : j = i
    · rw [if_pos he, he]; simp
    · rw [if_neg he, show j - i = (j - i - 1) + 1 by omega, List.getElem?_cons_succ, List.getElem?_drop]
      congr 1
      omega

theorem some_get (l : List Int) (j : Nat) (h : j < l.length) : some l[j] = l[j]? := (List.getElem?_eq_getElem h).symm

/-- a row that was moved up from i on, then x laid there -/
theorem OwnAt.shift {B b off cap : Nat} {w : World} {zs : List Int} (h : OwnAt B w b off cap zs) (i : Nat) (x : Int) (hi : i < zs.length) (hc : zs.length + 1 ≤ cap) :
    OwnAt B (w.setCells b (off + (i + 1)) (ints (zs.drop i))) b off cap (putAt zs i zs[i]) ∧ OwnAt B ((w.setCells b (off + (i + 1)) (ints (zs.drop i))).setCells b (off + i) (ints [x])) b off cap (putAt zs i x) := by
  have hl := putAt_length zs i zs[i] (by omega)
  have hl' := putAt_length zs i x (by omega)
  have h1 : OwnAt B (w.setCells b (off + (i + 1)) (ints (zs.drop i))) b off cap (putAt zs i zs[i]) := h.put (i + 1) (zs.drop i) (by simp; omega) _ (by omega) (fun j hj => by
    rw [some_get, putAt_at _ _ _ (by omega)]
    by_cases hji : j < i + 1
    · refine .inr ⟨.inl hji, ?_⟩
      by_cases he : j < i
      · rw [if_pos he]
      · rw [if_neg he, if_pos (by omega), show j = i by omega, List.getElem?_eq_getElem hi]
    · refine .inl ⟨by omega, by simp; omega, ?_⟩
      rw [if_neg (by omega), if_neg (by omega), List.getElem?_drop]
      congr 1
      omega)
  refine ⟨h1, h1.put i [x] (by simp; omega) _ (by omega) (fun j hj => ?_)⟩
  rw [some_get, putAt_at zs i x (by omega), putAt_at zs i zs[i] (by omega)]
  by_cases he : j = i
  · refine .inl ⟨by omega, by simp; omega, ?_⟩
    rw [if_neg (by omega), if_pos he, he]
    simp
  · refine .inr ⟨by simp; omega, ?_⟩
    by_cases hlt : j < i
    · rw [if_pos hlt, if_pos hlt]
    · rw [if_neg hlt, if_neg hlt, if_neg he, if_neg he]

theorem arr_ints (ys : List Int) (Z : Array Value) (j : Nat) (h : j < ys.length) : ((ints ys).toArray ++ Z)[j]? = some (.int .i64 ys[j]) := by
  rw [Array.getElem?_append_left (by simpa [ints] using h)]
  simp [ints, h]

theorem own_new {B : Nat} (w : World) (ys : List Int) (G : Nat) (hB : B ≤ w.heap.size) (h1 : ys.length ≤ G) (h2 : G ≤ maxLen) :
    OwnAt B (w.alloc (.cells ((ints ys).toArray ++ Builtin.zeroCells #[Value.int .i64 0] (G - ys.length)) 2)) w.heap.size 0 G ys :=
  OwnAt.fresh (heap_alloc_new w _) hB (by simp [ints, size_zeroCells]; omega) h2 h1 fun j hj => arr_ints ys _ j hj

set_option maxRecDepth 100000 in
set_option maxHeartbeats 1600000 in
theorem insertEnd {B : Nat} (b off cap : Nat) (zs : List Int) (i : Nat) (x : Int) (vb : Nat) (w : World) (h : OwnAt B w b off cap zs) (hi : i ≤ zs.length) (hin : i = zs.length) (hl : zs.length ≤ 1048576) (hB : B ≤ w.heap.size)
    (hv : w.heap[vb]? = some (.cells #[.int .i64 x] 2 (0, 0))) (_ : vb ≠ b) :
    Calls Tryz.prog 126 #[.slice (some ⟨b, off, none⟩) zs.length cap, .int .i64 i, .slice (some ⟨vb, 0, none⟩) 1 1] w fun e w' =>
      ∃ b' off' cap', e = .returned (.slice (some ⟨b', off', none⟩) (zs.length + 1) cap') ∧ OwnAt B w' b' off' cap' (putAt zs i x) ∧ w.grownBy w' (some b) ∧ (b' = b ∨ w.heap.size ≤ b') := by
  have Hh : Hid (OwnAt B w b off cap zs) := h
  have htop : cap ≤ 9223372036854775807 := h.top
  have hroom := h.room
  have hpl := putAt_length zs i x hi
  have hpg := putAt_get zs i x hi
  have Hpl : Hid (_ = _) := hpl
  have Hpg : Hid (∀ j (hj : j < (putAt zs i x).length), (j < i → zs[j]? = some (putAt zs i x)[j]) ∧ (j = i → (putAt zs i x)[j] = x) ∧ (i < j → zs[j - 1]? = some (putAt zs i x)[j])) := hpg
  have Hv : Hid (w.heap[vb]? = some (.cells #[.int .i64 x] 2 (0, 0))) := hv
  have hvc : w.cell? ⟨vb, 0, none⟩ = some (.int .i64 x) := by simp [World.cell?, hv]
  have hvs : ∀ j u, [Value.int .i64 x][j]? = some u → w.cell? ((⟨vb, 0, none⟩ : Addr).add j) = some u := fun j u hj => by
    cases j with
    | zero => simp at hj; subst hj; rw [Addr.add_lit]; exact hvc
    | succ j => simp at hj
  have hv1 : ∀ u ∈ [Value.int .i64 x], u.oneCell' = true := fun u hu => by simp at hu; subst hu; rfl
  obtain ⟨i0, hi0, hz0, hzs, hzb⟩ := info_parts Tryz.info64
  have hsz1 : (Tryz.prog.info? 2).map (·.size) = some 1 := by rw [hi0]; simp [hzs]
  have hsrc : Src Tryz.prog 1 106 (.slice (some ⟨vb, 0, none⟩) 1 1) 1 [.int .i64 x] w := Src.ofSlice w Tryz.underlying106 ⟨vb, 0, none⟩ 1 1 [.int .i64 x] (by simp) hvs hv1
  have hold : ∀ k, k ≤ zs.length → (Builtin.firstCells i0.size k (.slice (some ⟨b, off, none⟩) k cap)).run Tryz.prog w.drew = .ok (ints (zs.take k)).toArray w.drew := fun k hk => by
    rw [hzs]
    exact run_firstCells_some w.drew 1 k ⟨b, off, none⟩ k cap (ints (zs.take k)) (by simp [ints]; omega) (fun j v hj => by
      rw [Addr.add_lit]
      have hj' : j < k := by
        have := (List.getElem?_eq_some_iff.1 hj).1
        simp [ints] at this
        omega
      have := h.cells j (by omega)
      show w.cell? _ = _
      rw [this, ← hj]
      simp [ints, hj', show j < zs.length by omega])
  clear h hv hpl hpg
  subst hin
  have hc1 : ¬ ((1 : Int) = 0) := by omega
  by_cases hc : zs.length + 1 ≤ cap
  · go_enter Tryz.func126, Tryz.ntmps126
    go_wp2_with (at_builtin; refine wpList_append_room1 _ rfl _ _ 106 106 rfl 2 _ _ Tryz.underlying106 Tryz.info64 b off zs.length cap rfl _ rfl 1 _ hsrc hc ?g1 ?g2 ?_)
    case g1 => intro j hj; simp at hj; subst hj; rw [Nat.add_zero]; exact (Hh.out.spare zs.length (by omega)).1
    case g2 => intro j hj; simp at hj; subst hj; rw [Nat.add_zero]; exact (Hh.out.spare zs.length (by omega)).2
    go_ret
    refine ⟨b, off, cap, rfl, Hh.out.put zs.length [x] (by simpa using hc) _ (by rw [Hpl.out]; exact hc) (fun j hj => ?_), grown_setCells _ _ _ _, .inl rfl⟩
    have hp := Hpg.out j hj
    rw [Hpl.out] at hj
    by_cases he : j = zs.length
    · exact .inl ⟨by omega, by simp; omega, by rw [hp.2.1 he]; simp [he]⟩
    · exact .inr ⟨by omega, hp.1 (by omega)⟩
  · have hrun : ∀ ty, (Builtin.append_ #[106, 106] ty #[.slice (some ⟨b, off, none⟩) zs.length cap, .slice (some ⟨vb, 0, none⟩) 1 1]).run Tryz.prog w = _ := fun ty =>
      run_append_grow_src w 106 106 ty 2 i0 _ Tryz.underlying106 hi0 hz0 (some ⟨b, off, none⟩) zs.length cap _ (by have := hold zs.length (Nat.le_refl _); rwa [List.take_length] at this) _ 1 _ (by rw [hzs]; exact hsrc) (by omega) (by omega) (by rw [hzb]; exact growslice_fits (by omega) (by omega))
    go_enter Tryz.func126, Tryz.ntmps126
    go_wp2_with (at_builtin; refine Lib.wpList_append_run _ rfl _ _ _ _ rfl _ _ rfl rfl _ _ (hrun _) ?_)
    go_ret
    have hnew := own_new (B := B) w (zs ++ [x]) (grownCap w (zs.length + 1) cap 2) hB (by simpa using grownCap_ge w (zs.length + 1) cap 2) (grownCap_le_maxLen w (zs.length + 1) cap 2 (by unfold maxLen; omega))
    rw [ints_snoc, List.length_append, List.length_singleton] at hnew
    refine ⟨_, _, _, rfl, by rw [show putAt zs zs.length x = zs ++ [x] by simp [putAt]]; exact hnew.kept (Nat.le_refl _) rfl, grown_trans (World.grownBy_alloc w _ _) (grown_drew _ _), .inr (Nat.le_refl _)⟩

end Go.Proofs.YtijgonjnmibifaaGreatDoor
