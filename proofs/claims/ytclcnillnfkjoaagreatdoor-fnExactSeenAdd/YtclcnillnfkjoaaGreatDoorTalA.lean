/- impl.tally: add, dropNone. -/
import Derived.Test.YtclcnillnfkjoaaGreatDoorJ7
import Derived.Test.YtclcnillnfkjoaaGreatDoorJ6
import Derived.Deep.RegionHeld3
import Derived.Lib.MinMax
namespace Go.Proofs.YtclcnillnfkjoaaGreatDoor
open Go.RowKit

theorem findP_put (k v x : Int × Int) (l : PL) : findP x (putP k v l) = if x = k then some v else findP x l := by
  induction l with
  | nil => unfold putP findP findP; rfl
  | cons e l ih =>
    unfold putP
    by_cases hk : k = e.1
    · rw [if_pos hk]
      show (if x = k then some v else findP x l) = _
      by_cases hx : x = k
      · rw [if_pos hx, if_pos hx]
      · rw [if_neg hx, if_neg hx]
        show _ = (if x = e.1 then some e.2 else findP x l)
        rw [if_neg (by rw [← hk]; exact hx)]
    · rw [if_neg hk]
      show (if x = e.1 then some e.2 else findP x (putP k v l)) = if x = k then some v else (if x = e.1 then some e.2 else findP x l)
      rw [ih]
      by_cases hx : x = e.1
      · rw [if_pos hx, if_pos hx, if_neg (fun h => hk (by rw [← h, hx]))]
      · rw [if_neg hx, if_neg hx]

/-- the tally with that added -/
def addL (l : PL) (k c : Int × Int) : PL := putP k (min ((plT l k).1 + c.1) 1000000, min ((plT l k).2 + c.2) 1000000) l

theorem plT_add (l : PL) (k c : Int × Int) : plT (addL l k c) = addT (plT l) k c := by
  funext x
  unfold addL addT
  show (findP x (putP k _ l)).getD (0, 0) = _
  rw [findP_put]
  by_cases hx : x = k
  · rw [if_pos hx, if_pos hx]; rfl
  · rw [if_neg hx, if_neg hx]; rfl

def TalTold (b : Nat) (l : PL) (B : Nat) (w w' : World) (e : Ending) : Prop := e = .returned (.tuple #[]) ∧ MapS w' b l ∧ Below B w w'

set_option maxRecDepth 100000 in
set_option maxHeartbeats 1600000 in
theorem implAdd (B b : Nat) (l : PL) (k1 k2 c1 c2 : Int) (w : World) (hM : MapS w b l) (hB : B ≤ b) (hBw : B ≤ w.heap.size) (hbd : Bnd (plT l)) (h1 : 0 ≤ c1 ∧ c1 ≤ 1000000) (h2 : 0 ≤ c2 ∧ c2 ≤ 1000000) :
    Calls Tryz.prog 82 #[.map (some b), .agg #[.int .i64 k1, .int .i64 k2], .agg #[.int .i64 c1, .int .i64 c2]] w fun e w' => TalTold b (addL l (k1, k2) (c1, c2)) B w w' e := by
  have hT := hbd (k1, k2)
  obtain ⟨x1, x2, hx⟩ : ∃ x1 x2, plT l (k1, k2) = (x1, x2) := ⟨_, _, rfl⟩
  rw [hx] at hT
  simp only at hT
  have hw1 : wrap64 (x1 + c1) = x1 + c1 := by unfold wrap64; omega
  have hw2 : wrap64 (x2 + c2) = x2 + c2 := by unfold wrap64; omega
  have HL : Hid (∀ W, Below w.heap.size w W → (Instr.lookup 88 (.map (some b)) (.agg #[.int .i64 k1, .int .i64 k2]) false).run Tryz.prog W = .ok (.agg #[.int .i64 x1, .int .i64 x2]) W) := fun W hW => by
    have h := ((hM.below hW).look (k1, k2)).2
    have e : (findP (k1, k2) l).getD (0, 0) = (x1, x2) := hx
    rw [e] at h
    exact h
  have hb3 : Below w.heap.size w (((w.alloc (.cells #[.int .i64 k1, .int .i64 k2] 131)).alloc (.cells #[.int .i64 c1, .int .i64 c2] 128)).alloc (.cells #[.int .i64 x1, .int .i64 x2] 128)) := (((Below.refl _ _).alloc (Nat.le_refl _) _).alloc (by simp) _).alloc (by simp; omega) _
  obtain ⟨es, clock, hup, hM'⟩ := (hM.below hb3).update (k1, k2) (min (x1 + c1) 1000000, min (x2 + c2) 1000000)
  have hup' : (Instr.mapUpdate 88 (.map (some b)) (.agg #[.int .i64 k1, .int .i64 k2]) (.agg #[.int .i64 (min (x1 + c1) 1000000), .int .i64 (min (x2 + c2) 1000000)])).run Tryz.prog (((w.alloc (.cells #[.int .i64 k1, .int .i64 k2] 131)).alloc (.cells #[.int .i64 c1, .int .i64 c2] 128)).alloc (.cells #[.int .i64 x1, .int .i64 x2] 128)) = .ok () _ := hup
  have hadd : addL l (k1, k2) (c1, c2) = putP (k1, k2) (min (x1 + c1) 1000000, min (x2 + c2) 1000000) l := by unfold addL; rw [hx]
  rw [← hadd] at hM'
  have HE : Hid (TalTold b (addL l (k1, k2) (c1, c2)) B w _ (.returned (.tuple #[]))) := ⟨rfl, hM', below_setBlock (hb3.mono hBw) hB _⟩
  clear hup hM' hb3 hadd
  go_enter Tryz.func82, Tryz.ntmps82
  have l1 := HL.out ((w.alloc (.cells #[.int .i64 k1, .int .i64 k2] 131)).alloc (.cells #[.int .i64 c1, .int .i64 c2] 128)) (((Below.refl _ _).alloc (Nat.le_refl _) _).alloc (by simp) _)
  go_wp2_with fail
  go_end0
  exact HE.out

/-- the entries that were seen -/
def seenL (l : PL) : PL := l.filter fun e => decide (e.2 ≠ ((0, 0) : Int × Int))

theorem plT_seen {l : PL} (hn : (l.map (·.1)).Nodup) : plT (seenL l) = plT l := by
  funext x
  unfold plT seenL
  induction l with
  | nil => rfl
  | cons e l ih =>
    simp only [List.map_cons, List.nodup_cons] at hn
    rw [List.filter_cons]
    by_cases hz : e.2 = (0, 0)
    · rw [if_neg (by simp [hz])]
      show _ = (if x = e.1 then some e.2 else findP x l).getD (0, 0)
      rw [ih hn.2]
      by_cases hx : x = e.1
      · rw [if_pos hx, hz]
        have hno : findP x l = none := by
          rw [hx]
          have hall : ∀ (m : PL), e.1 ∉ m.map (·.1) → findP e.1 m = none := by
            intro m
            induction m with
            | nil => intro _; rfl
            | cons y m ihm =>
              intro hy
              simp only [List.map_cons, List.mem_cons, not_or] at hy
              unfold findP
              rw [if_neg hy.1]
              exact ihm hy.2
          exact hall l hn.1
        rw [hno]; rfl
      · rw [if_neg hx]
    · rw [if_pos (by simp [hz])]
      show (if x = e.1 then some e.2 else findP x _).getD (0, 0) = (if x = e.1 then some e.2 else findP x l).getD (0, 0)
      by_cases hx : x = e.1
      · rw [if_pos hx, if_pos hx]
      · rw [if_neg hx, if_neg hx]; exact ih hn.2

/-- while nought entries are struck: what is no nought, or still to come -/
def Dropping (l : PL) (left : Int × Int → Bool) : PL := l.filter fun e => decide (e.2 ≠ ((0, 0) : Int × Int)) || left e.1

theorem one_val {l : PL} (hn : (l.map (·.1)).Nodup) {k v v' : Int × Int} (h : (k, v) ∈ l) (h' : (k, v') ∈ l) : v = v' := by
  have e1 := findP_of_mem hn h
  have e2 := findP_of_mem hn h'
  simp only at e1 e2
  rw [e1] at e2
  exact Option.some.inj e2

theorem drop_start (l : PL) : Dropping l (fun _ => true) = l := by
  unfold Dropping
  exact List.filter_eq_self.2 fun e _ => by simp

theorem drop_end {l : PL} {left : Int × Int → Bool} (h : ∀ e ∈ Dropping l left, left e.1 = false) : Dropping l left = seenL l := by
  unfold Dropping seenL at *
  refine List.filter_congr fun e he => ?_
  by_cases hz : e.2 = (0, 0)
  · cases hl : left e.1 with
    | false => simp
    | true =>
      have := h e (List.mem_filter.2 ⟨he, by simp [hl]⟩)
      rw [hl] at this
      cases this
  · simp [hz]

theorem drop_keep {l : PL} (hn : (l.map (·.1)).Nodup) {left : Int × Int → Bool} {k v : Int × Int} (hk : (k, v) ∈ l) (hv : v ≠ (0, 0)) : Dropping l left = Dropping l (fun x => left x && !decide (x = k)) := by
  unfold Dropping
  refine List.filter_congr fun e he => ?_
  by_cases hz : e.1 = k
  · have : e.2 = v := one_val hn (k := k) (by rw [← hz]; exact he) hk
    simp [this, hv]
  · simp [hz]

theorem drop_strike {l : PL} (hn : (l.map (·.1)).Nodup) {left : Int × Int → Bool} {k : Int × Int} (hk : (k, ((0, 0) : Int × Int)) ∈ l) : (Dropping l left).filter (fun e => decide (e.1 ≠ k)) = Dropping l (fun x => left x && !decide (x = k)) := by
  unfold Dropping
  rw [List.filter_filter]
  refine List.filter_congr fun e he => ?_
  by_cases hz : e.1 = k
  · have : e.2 = (0, 0) := one_val hn (k := k) (by rw [← hz]; exact he) hk
    simp [this, hz]
  · simp [hz]

set_option maxRecDepth 100000 in
set_option maxHeartbeats 1600000 in
theorem implDrop (B b : Nat) (l : PL) (w : World) (hM : MapS w b l) (hB : B ≤ b) (hBw : B ≤ w.heap.size) :
    Calls Tryz.prog 83 #[.map (some b)] w fun e w' => TalTold b (seenL l) B w w' e := by
  go_enter Tryz.func83, Tryz.ntmps83
  go_wp2_with (first | (at_range; refine wpList_rangeS rfl _ rfl (b := b) rfl hM ?_; intro o' hrg0) | go_in)
  have hkeys := hM.keys
  go_frame
  have hz : ∀ W, (Op.equalIn 10000 128 (.agg #[.int .i64 0, .int .i64 0]) (.agg #[.int .i64 0, .int .i64 0])).run Tryz.prog W = .ok true W := fun W => eqCounts 0 0 0 0 W
  go_loopw [2, 3] (fun _ _ wr => ∃ (left : Int × Int → Bool) (cnt : Nat), MapR wr b w.heap.size (Dropping l left) left cnt ∧ Below B w wr) (fun _ _ wr => wr.rangeLeft b w.heap.size)
  case atStart => exact ⟨_, _, by rw [drop_start]; exact hrg0, (Below.refl _ _).alloc hBw _⟩
  case round =>
    obtain ⟨left, cnt, hrg, hb⟩ := hrel
    go_wp2_with (first
      | (at_next; refine wpList_nextS rfl _ rfl rfl hrg ?_ ?_)
      | go_in)
    · intro hl0
      go_wp2_with fail
      go_end0
      exact ⟨rfl, by rw [← drop_end (fun e he => hl0 e.1.1 e.1.2 e.2.1 e.2.2 he)]; exact hrg.map, hb⟩
    · intro k1 k2 v1 v2 w2 cnt2 hm2 hlk hrg2 hlt hg2 hs2 hen hbe
      have hb2 : Below B w w2 := hb.trans (hbe B hBw)
      clear hs2 hbe
      have hmem : ((k1, k2), ((v1, v2) : Int × Int)) ∈ l := (List.mem_filter.1 hm2).1
      have Hhal : Hid (∀ o o', Below w2.heap.size w2 ((w2.alloc o).alloc o')) := fun o o' => ((Below.refl _ _).alloc (Nat.le_refl _) _).alloc (by simp) _
      have hw2 : B ≤ w2.heap.size := Nat.le_trans hBw hb2.size
      by_cases hv : v1 = 0 ∧ v2 = 0
      · obtain ⟨rfl, rfl⟩ := hv
        have Hrg3 : Hid (MapR ((w2.alloc (.cells #[.int .i64 k1, .int .i64 k2] 131)).alloc (.cells #[.int .i64 0, .int .i64 0] 128)) b w.heap.size (Dropping l left) (fun x => left x && !decide (x = (k1, k2))) cnt2) := hrg2.below (Hhal.out _ _)
        clear hrg2
        go_wp2_with (first
          | (at_delete; refine wpList_deleteS rfl _ _ rfl rfl Hrg3.out (k1, k2) (0, 0) hm2 rfl ?_; intro o2 cnt3 hrg4 hle; go_frame)
          | go_in)
        go_roundw
        case rel =>
          rw [drop_strike hkeys hmem] at hrg4
          exact ⟨_, _, hrg4, below_setBlock (hb2.trans ((Hhal.out _ _).mono hw2)) hB _⟩
        case measure => rw [hrg4.left_eq, hrg.left_eq]; omega
      · have hv' : ((v1, v2) : Int × Int) ≠ (0, 0) := by simpa using hv
        have Hrg3 : Hid (MapR ((w2.alloc (.cells #[.int .i64 k1, .int .i64 k2] 131)).alloc (.cells #[.int .i64 v1, .int .i64 v2] 128)) b w.heap.size (Dropping l (fun x => left x && !decide (x = (k1, k2)))) (fun x => left x && !decide (x = (k1, k2))) cnt2) := by
          show MapR _ _ _ _ _ _
          rw [← drop_keep hkeys hmem hv']
          exact hrg2.below (Hhal.out _ _)
        clear hrg2
        have hb4 : Below B w ((w2.alloc (.cells #[.int .i64 k1, .int .i64 k2] 131)).alloc (.cells #[.int .i64 v1, .int .i64 v2] 128)) := hb2.trans ((Hhal.out _ _).mono hw2)
        have hcmp := fun W => eqCounts v1 v2 0 0 W
        have hno : (v1 == 0 && v2 == 0) = false := by
          by_cases h1 : v1 = 0
          · have h2 : v2 ≠ 0 := fun h => hv ⟨h1, h⟩
            simp [h1, h2]
          · simp [h1]
        rw [hno] at hcmp
        go_wp2_with fail
        go_roundw
        case rel => exact ⟨_, _, Hrg3.out, hb4⟩
        case measure => rw [Hrg3.out.left_eq, hrg.left_eq]; exact hlt
end Go.Proofs.YtclcnillnfkjoaaGreatDoor
