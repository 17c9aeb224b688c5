/- slices.SortedFunc of the tally's keys by spotOrder. slices.SortedFunc of the tally's keys by spotOrder: the whole call. -/
import Derived.Test.YtclcnillnfkjoaaGreatDoorJ1
import Derived.Test.YtclcnillnfkjoaaGreatDoorSeenO
namespace Go.Proofs.YtclcnillnfkjoaaGreatDoor
open Go.RowKit Go.Shelf Go.Sort

/-- a world that has grown, by draws and blocks behind -/
theorem grown_of {w w' : World} (h : Below w.heap.size w w') (hd : w.drawn ≤ w'.drawn) : ∃ q os, w' = grow (w.drewN q) os := by
  refine ⟨w'.drawn - w.drawn, w'.heap.extract w.heap.size w'.heap.size, ?_⟩
  obtain ⟨h1, h2, h3, h4, h5⟩ := h
  obtain ⟨hp, tp, dr, os, out⟩ := w'
  simp only at *
  subst h1 h2 h3
  unfold grow World.drewN
  simp only [World.mk.injEq, and_true, true_and]
  refine ⟨?_, by omega⟩
  apply Array.ext_getElem?
  intro i
  by_cases hi : i < w.heap.size
  · rw [Array.getElem?_append_left hi, h5 i hi]
  · rw [Array.getElem?_append_right (by omega), Array.getElem?_extract]
    have e : w.heap.size + (i - w.heap.size) = i := by omega
    rw [e]
    by_cases hi2 : i < hp.size
    · rw [if_pos (by omega)]
    · rw [if_neg (by omega), Array.getElem?_eq_none (by omega)]

def encS (x : Int × Int) : List Value := [.int .i64 x.1, .int .i64 x.2]

theorem ltS (x y : Int × Int) : ltOf ordS x y = decide (x.1 < y.1 ∨ (x.1 = y.1 ∧ x.2 < y.2)) := by
  unfold ltOf ordS
  by_cases h1 : x.1 < y.1
  · simp [h1]
  · by_cases h2 : y.1 < x.1
    · have : ¬ (x.1 < y.1 ∨ (x.1 = y.1 ∧ x.2 < y.2)) := by omega
      rw [decide_eq_false this]
      simp [h1, h2]
    · have e : x.1 = y.1 := by omega
      by_cases h3 : x.2 < y.2
      · simp [h3, e]
      · by_cases h4 : y.2 < x.2
        · simp [h3, h4, e]
        · simp [h3, h4, e]

theorem swoS : SWO (ltOf ordS) where
  irrefl x := by rw [ltS]; simp
  trans x y z h1 h2 := by rw [ltS] at *; simp only [decide_eq_true_eq] at *; omega
  ntrans x y z h1 h2 := by rw [ltS] at *; simp only [decide_eq_false_iff_not] at *; omega

theorem cmpLaysS (blk off size : Nat) (w : World) : CmpLays Tryz.prog 81 #[] encS 2 ordS blk off size w :=
  fun _ _ _ _ x y => (implOrderG x.1 x.2 y.1 y.2 _).mono fun _ _ h => ⟨h.1, grown_of h.2.1 h.2.2⟩

/-- sorted as one list -/
def sortS (l : List (Int × Int)) : List (Int × Int) := l.mergeSort fun x y => !(ltOf ordS) y x

theorem implSortS (blk off cap : Nat) (d : List (Int × Int)) (w : World) (hH : HoldsK encS 2 w blk off d.toArray) (hblk : blk < w.heap.size) (hsz : d.length < 4611686018427387904) :
    Calls Tryz.prog 110 #[.slice (some ⟨blk, off, none⟩) d.length cap, .func (.func 81) #[] #[]] w fun e w' => e = .returned (.tuple #[]) ∧ ∃ n os, w' = sortWorldK encS 2 w blk off n (sortS d).toArray os := by
  have h := AnyQ.slices_SortFunc_total Tryz.sortSpot 2 Tryz.isAgg131 Tryz.sizeOf131 encS (fun _ => rfl) (fun x v hv => by simp [encS] at hv; rcases hv with rfl | rfl <;> rfl) ordS swoS 81 #[] blk off cap d.toArray w (enters_of Tryz.func81 (by kernel_rfl) rfl) (cmpLaysS blk off _ w) hH hblk (by simpa using hsz) (fun x y h1 h2 => by rw [ltS] at h1 h2; simp only [decide_eq_false_iff_not] at h1 h2; exact Prod.ext (by omega) (by omega))
  have h' : Calls Tryz.prog 110 _ _ _ := h
  simp only [List.size_toArray] at h'
  exact h'
end Go.Proofs.YtclcnillnfkjoaaGreatDoor

namespace Go.Proofs.YtclcnillnfkjoaaGreatDoor
open Go.RowKit Go.Shelf Go.Sort

/-- a slice of structs of two numbers, in memory of the call's own -/
def SpotRow (B : Nat) (w : World) (v : Value) (l : List (Int × Int)) : Prop :=
  ∃ A cap, v = .slice A l.length cap ∧ ∀ i (h : i < l.length), ∃ b off, A = some ⟨b, off, none⟩ ∧ B ≤ b ∧ b < w.heap.size ∧ w.cell? ⟨b, off + i * 2, none⟩ = some (.int .i64 l[i].1) ∧ w.cell? ⟨b, off + i * 2 + 1, none⟩ = some (.int .i64 l[i].2)

theorem SpotRow.below {B : Nat} {w w' : World} {v : Value} {l : List (Int × Int)} (h : SpotRow B w v l) (hb : Below w.heap.size w w') : SpotRow B w' v l := by
  obtain ⟨A, cap, hv, hc⟩ := h
  refine ⟨A, cap, hv, fun i hi => ?_⟩
  obtain ⟨b, off, h1, h2, h3, h4, h5⟩ := hc i hi
  exact ⟨b, off, h1, h2, Nat.lt_of_lt_of_le h3 hb.size, by rw [hb.cell (by exact h3)]; exact h4, by rw [hb.cell (by exact h3)]; exact h5⟩

theorem grownBy_sortK (w : World) (blk off n : Nat) (d : Array (Int × Int)) (os : Array Obj) : w.grownBy (sortWorldK encS 2 w blk off n d os) (some blk) := by
  unfold sortWorldK putRowK
  refine ⟨rfl, rfl, rfl, by simp, fun k hk hne => ?_⟩
  rw [heap_grow_old _ _ (by simpa using hk)]
  have : blk ≠ k := fun e => hne (by rw [e])
  simp [putRow, mapBlock, Sort.ahead, Array.getElem?_modify, this]

theorem spotCells_at : ∀ (l : List (Int × Int)) (i : Nat) (h : i < l.length), (spotCells l)[i * 2]? = some (.int .i64 l[i].1) ∧ (spotCells l)[i * 2 + 1]? = some (.int .i64 l[i].2)
  | x :: l, 0, _ => ⟨rfl, rfl⟩
  | x :: l, i + 1, h => by
    have := spotCells_at l i (by simpa using h)
    have e : spotCells (x :: l) = .int .i64 x.1 :: .int .i64 x.2 :: spotCells l := rfl
    rw [e, show (i + 1) * 2 = i * 2 + 1 + 1 by omega]
    simpa using this

theorem holdsK_of_row {W : World} {g : Nat} {cur : Array Value} {e : TypeId} {ss : List (Int × Int)} (hb : W.heap[g]? = some (.cells cur e (0, 0))) (ht : cur.toList.take (ss.length * 2) = spotCells ss) : HoldsK encS 2 W g 0 ss.toArray := by
  have hc : ∀ (t : Nat) (v : Value), t < ss.length * 2 → (spotCells ss)[t]? = some v → W.cell? ⟨g, 0 + t, none⟩ = some v ∧ W.frozen? ⟨g, 0 + t, none⟩ = false := fun t v hlt hv => by
    rw [← ht, List.getElem?_take_of_lt hlt, Array.getElem?_toList] at hv
    refine ⟨?_, ?_⟩
    · simp [World.cell?, hb, hv]
    · simp [World.frozen?, hb]
  intro t htl
  rw [size_flatK] at htl
  have htl' : t < ss.length * 2 := by simpa using htl
  have hi : t / 2 < ss.length := by omega
  obtain ⟨c0, c1⟩ := spotCells_at ss (t / 2) hi
  have hget : (flatK encS 2 ss.toArray)[t]! = (encS ss[t / 2])[t % 2]! := by
    rw [get_flatK _ _ _ _ (by simpa using htl')]
    congr 2
    simp [hi]
  show W.cell? _ = some ((flatK encS 2 ss.toArray)[t]!) ∧ _
  rw [hget]
  rcases Nat.mod_two_eq_zero_or_one t with h0 | h0
  · have e0 : t = t / 2 * 2 := by omega
    have := hc t _ htl' (by rw [e0]; simpa using c0)
    rw [h0]
    exact this
  · have e0 : t = t / 2 * 2 + 1 := by omega
    have := hc t _ htl' (by rw [e0]; simpa [show (t / 2 * 2 + 1) / 2 = t / 2 by omega] using c1)
    rw [h0]
    exact this

theorem spotRow_sorted {W : World} {g n cap : Nat} {os : Array Obj} {ss : List (Int × Int)} {B : Nat} (hH : HoldsK encS 2 W g 0 ss.toArray) (hg : g < W.heap.size) (hB : B ≤ g) : SpotRow B (sortWorldK encS 2 W g 0 n (sortS ss).toArray os) (.slice (some ⟨g, 0, none⟩) ss.length cap) (sortS ss) := by
  have hlen : (sortS ss).length = ss.length := by unfold sortS; rw [List.length_mergeSort]
  have h2 := holdsK_sortWorldK_c encS 2 W g 0 ss.toArray (sortS ss).toArray n os hH hg (by simp [hlen])
  refine ⟨_, cap, by rw [hlen], fun i hi => ⟨g, 0, rfl, hB, Nat.lt_of_lt_of_le hg (size_sortWorldK_c encS 2 W g 0 n _ os), ?_, ?_⟩⟩
  · have := (h2.cell (i := i) (c := 0) (by simpa using hi) (by omega)).1
    simpa [encS, hi] using this
  · have := (h2.cell (i := i) (c := 1) (by simpa using hi) (by omega)).1
    simpa [encS, hi] using this

set_option maxHeartbeats 1600000 in
theorem implSortedF (Bm b : Nat) (L : PL) (w : World) (hBm : Bm < w.heap.size) (hm : w.cell? ⟨Bm, 0, none⟩ = some (.map (some b))) (hM : MapS w b L) (hL : L.length ≤ 1048576) :
    Calls Tryz.prog 84 #[.func (.func 111) #[] #[.pointer (some ⟨Bm, 0, none⟩)], .func (.func 81) #[] #[]] w fun e w' => ∃ v ks, e = .returned v ∧ List.Perm ks (L.map (·.1)) ∧ SpotRow w.heap.size w' v (sortS ks) ∧ Below w.heap.size w w' := by
  have hcol := implCollectS 111 #[.pointer (some ⟨Bm, 0, none⟩)] (enters_of Tryz.func111 (by kernel_rfl) rfl) (fun xs => xs.Perm (L.map (·.1))) L.length hL w (keysStops 1 (Nat.le_refl _) Bm b L w hBm hm hM)
  go_enter Tryz.func84, Tryz.ntmps84
  go_wp2_with fail
  refine Calls.mono (R := fun e w' => CollTold (fun xs => xs.Perm (L.map (·.1))) w w' e) hcol ?_
  rintro e W ⟨v, ss, rfl, hS, hrow, hnil, hb⟩
  have hss : ss.length ≤ 1048576 := by have := hS.length_eq; simp at this; omega
  rcases hrow.2 with ⟨rfl, hz⟩ | ⟨g, cap, cur, rfl, hbg, hg, hnc, hcm, hcs, htake⟩
  · have hss0 : ss = [] := List.eq_nil_of_length_eq_zero hz
    subst hss0
    have hn := AnyF.slices_SortFunc_none (P := Tryz.prog) (ρ := Tryz.sortSpot_ren) { Tryz.sortSpot with } none 0 (.func (.func 81) #[] #[]) W
    have hn' : Calls Tryz.prog 110 #[.slice none 0 0, .func (.func 81) #[] #[]] W _ := hn
    go_wp2_with fail
    refine hn'.mono ?_
    rintro e w' ⟨rfl, rfl⟩
    go_wp2_with fail
    go_ret
    exact ⟨.slice none 0 0, [], rfl, hS, ⟨none, 0, by simp [sortS], fun i hi => absurd hi (by simp [sortS])⟩, hb⟩
  · have hgl : g < W.heap.size := (Array.getElem?_eq_some_iff.1 hg).1
    have hH := holdsK_of_row hg htake
    have hsort := implSortS g 0 cap ss W hH hgl (by omega)
    go_wp2_with fail
    refine hsort.mono ?_
    rintro e w' ⟨rfl, n, os, rfl⟩
    go_wp2_with fail
    go_ret
    exact ⟨_, ss, rfl, hS, spotRow_sorted hH hgl hbg, hb.grown (grownBy_sortK _ _ _ _ _ _) hb.size (fun k e => by cases e; exact hbg)⟩
end Go.Proofs.YtclcnillnfkjoaaGreatDoor
