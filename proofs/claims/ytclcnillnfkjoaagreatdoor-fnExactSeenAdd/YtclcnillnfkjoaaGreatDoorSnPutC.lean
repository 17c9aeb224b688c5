/- spec.l07Put: a place that is not there, and others behind it. -/
import Derived.Test.YtclcnillnfkjoaaGreatDoorSnPutA
namespace Go.Proofs.YtclcnillnfkjoaaGreatDoor
open Go.RowKit

set_option maxRecDepth 100000 in
set_option maxHeartbeats 12800000 in
theorem specPutOther {B : Nat} (g c : Nat) (l : List SnM) (f a u t : Int) (w : World) (hV : SnV B w (.slice (some ⟨g, 0, none⟩) l.length c) l) (hl : l.length ≤ 1000000) (_hu : 0 ≤ u ∧ u ≤ 1000000) (_ht : 0 ≤ t ∧ t ≤ 1000000) (hb : ∀ s ∈ l, (0 ≤ s.went ∧ s.went ≤ 1000000) ∧ 0 ≤ s.past ∧ s.past ≤ 1000000) (hsame : ∃ h : aheadN ⟨f, a, u, t⟩ l < l.length, ¬ (l[aheadN ⟨f, a, u, t⟩ l].func = f ∧ l[aheadN ⟨f, a, u, t⟩ l].pc = a)) :
    Calls Tryz.prog 47 #[.slice (some ⟨g, 0, none⟩) l.length c, .agg #[.int .i64 f, .int .i64 a, .int .i64 u, .int .i64 t]] w fun e w' => PutTold (putS l ⟨f, a, u, t⟩) w w' e := by
  have HV : Hid (∀ W, Below w.heap.size w W → SnV B W (.slice (some ⟨g, 0, none⟩) l.length c) l) := fun W h => hV.below h
  obtain ⟨hc, _, hg, hcell⟩ := hV.cells
  have HC : Hid (∀ W, Below w.heap.size w W → ∀ i (h : i < l.length), W.cell? ⟨g, i * 4, none⟩ = some (.int .i64 l[i].func) ∧ W.cell? ⟨g, i * 4 + 1, none⟩ = some (.int .i64 l[i].pc) ∧ W.cell? ⟨g, i * 4 + 2, none⟩ = some (.int .i64 l[i].went) ∧ W.cell? ⟨g, i * 4 + 3, none⟩ = some (.int .i64 l[i].past)) := fun W h i hi => ((hV.below h).cells).2.2.2 i hi
  obtain ⟨n, hn⟩ : ∃ n, n = aheadN ⟨f, a, u, t⟩ l := ⟨_, rfl⟩
  have Hn : Hid (n = aheadN ⟨f, a, u, t⟩ l) := hn
  have hnl : n ≤ l.length := by rw [hn]; exact aheadN_le _ _
  have hgw : ∀ W, Below w.heap.size w W → g < W.heap.size := fun W h => Nat.lt_of_lt_of_le hg h.size
  have Hgw : Hid (∀ W, Below w.heap.size w W → g < W.heap.size) := hgw
  have Hbd : Hid (∀ s ∈ l, (0 ≤ s.went ∧ s.went ≤ 1000000) ∧ 0 ≤ s.past ∧ s.past ≤ 1000000) := hb
  -- the first append: what is ahead
  have HA1 : Hid (∀ W, Below w.heap.size w W → AppT W.heap.size (W.alloc (.cells #[] 83)) W.heap.size 0 [] (some ⟨g, 0, none⟩) n c (l.take n)) := fun W h => by
    have hw : Below w.heap.size w (W.alloc (.cells #[] 83)) := h.alloc h.size _
    have h1 := (hV.below hw).part 0 (l.take n) (fun i hi => ⟨by simp only [List.length_take] at hi; omega, by simp⟩)
    exact snAppend (sn_nil W.heap.size W (Nat.le_refl _)) (by simp) _ n c (l.take n) (by rw [List.length_take]; omega) h1 (by simp only [List.length_take, List.length_nil]; omega) _
  have hlt : n < l.length := by obtain ⟨h1, _⟩ := hsame; rw [hn]; exact h1
  have Hsame : Hid (∃ h : n < l.length, ¬ (l[n].func = f ∧ l[n].pc = a)) := by rw [← hn] at hsame; exact hsame
  clear hn hgw hg hb hcell hV hsame
  have X0 : Hid (VRow _ w.heap.size [.int .i64 f, .int .i64 a, .int .i64 u, .int .i64 t]) := vrow_new w #[.int .i64 f, .int .i64 a, .int .i64 u, .int .i64 t] 83
  have X2 : Hid (Below w.heap.size w (w.alloc (.cells #[.int .i64 f, .int .i64 a, .int .i64 u, .int .i64 t] 83))) := (Below.refl _ _).alloc (Nat.le_refl _) _
  go_enter Tryz.func47, Tryz.ntmps47
  go_wp2_with fail
  go_loopg [5] (n) (fun g i wr => ∃ k : Nat, k ≤ n ∧ i = .int .i64 (k : Int) ∧ n ≤ k + g ∧ Below w.heap.size w wr ∧ VRow wr w.heap.size [.int .i64 f, .int .i64 a, .int .i64 u, .int .i64 t])
  case atStart => exact ⟨0, Nat.zero_le _, rfl, by omega, X2.out, X0.out⟩
  case round =>
    clear X0 X2
    obtain ⟨k, hk, rfl, hkg, hbw, hB⟩ := hrel
    have Hb : Hid (Below w.heap.size w wr) := hbw
    have HB : Hid (VRow wr w.heap.size [.int .i64 f, .int .i64 a, .int .i64 u, .int .i64 t]) := hB
    obtain ⟨cz, c0, c1, c2, c3⟩ := four_vrow hB
    clear hbw hB
    have hkl : k < l.length := by omega
    have hlt0 := Hgw.out wr Hb.out
    obtain ⟨d0, d1, d2, d3⟩ := HC.out wr Hb.out k hkl
    have HL : Hid (∀ W, Calls Tryz.prog 76 #[.agg #[.int .i64 l[k].func, .int .i64 l[k].pc, .int .i64 l[k].went, .int .i64 l[k].past], .agg #[.int .i64 f, .int .i64 a, .int .i64 u, .int .i64 t]] W fun e w' => e = .returned (.bool (decide (k < n))) ∧ Below W.heap.size W w') := fun W => by
      have h := specLess l[k] ⟨f, a, u, t⟩ W
      have e : decide (snLess l[k] ⟨f, a, u, t⟩) = decide (k < n) := by
        have := ahead_iff ⟨f, a, u, t⟩ l k hkl (by rw [← Hn.out]; exact hk)
        rw [← Hn.out] at this
        exact decide_eq_decide.2 this
      rw [e] at h
      exact h
    obtain ⟨s, hs⟩ : ∃ s, s = l[k] := ⟨_, rfl⟩
    have Hs : Hid (s = l[k]) := hs
    rw [← hs] at d0 d1 d2 d3 HL
    clear hs
    obtain ⟨sf, sa, su, st⟩ := s
    simp only at d0 d1 d2 d3 HL
    by_cases hkn : k < n
    · have hd : decide (k < n) = true := by simpa using hkn
      rw [hd] at HL
      go_wp2_with fail
      go_cut [18] (fun q wc => q = .bool true ∧ Below wr.heap.size wr wc)
      case first =>
        go_region_with (first | (go_at_call 76; refine (HL.out _).mono ?_; rintro e w3 ⟨rfl, hb3⟩))
        all_goals
          go_wp2_with fail
          go_meet
          exact ⟨rfl, (Below.refl _ _).drew.trans (hb3.mono (Nat.le_refl _))⟩
      case rest =>
        obtain ⟨rfl, hb3⟩ := hcut
        rename World => w3
        have Hb3 : Hid (Below w.heap.size w w3) := Hb.out.trans (hb3.mono Hb.out.size)
        have HB3 : Hid (VRow w3 w.heap.size [.int .i64 f, .int .i64 a, .int .i64 u, .int .i64 t]) := HB.out.below hb3
        clear hb3 HL c0 c1 c2 c3 cz d0 d1 d2 d3 hlt0
        go_wp2_with fail
        go_roundg (gk - 1)
        case measure => omega
        case rel => exact ⟨k + 1, by omega, by go_num, by omega, Hb3.out, HB3.out⟩
    · have hd : decide (k < n) = false := by simpa using hkn
      have hke : k = n := by omega
      subst hke
      rw [hd] at HL
      go_wp2_with fail
      go_cut [18] (fun q wc => q = .bool false ∧ Below wr.heap.size wr wc)
      case first =>
        go_region_with (first | (go_at_call 76; refine (HL.out _).mono ?_; rintro e w3 ⟨rfl, hb3⟩))
        all_goals
          go_wp2_with fail
          go_meet
          exact ⟨rfl, (Below.refl _ _).drew.trans (hb3.mono (Nat.le_refl _))⟩
      case rest =>
        obtain ⟨rfl, hb3⟩ := hcut
        rename World => w3
        have Hb3 : Hid (Below w.heap.size w w3) := Hb.out.trans (hb3.mono Hb.out.size)
        have HB3 : Hid (VRow w3 w.heap.size [.int .i64 f, .int .i64 a, .int .i64 u, .int .i64 t]) := HB.out.below hb3
        obtain ⟨g4, c4, w4, hrun, hV4, hb4⟩ := HA1.out w3 Hb3.out
        simp only [List.nil_append, List.length_nil] at hrun hV4
        have hkl4 : (l.take k).length = k := by rw [List.length_take]; omega
        rw [hkl4] at hrun hV4
        have HV4 : Hid (SnV w3.heap.size w4 (.slice (some ⟨g4, 0, none⟩) k c4) (l.take k)) := hV4
        have Hb34 : Hid (Below w3.heap.size w3 w4) := ((Below.refl _ _).alloc (Nat.le_refl _) _).trans hb4
        have Hb4 : Hid (Below w.heap.size w w4) := Hb3.out.trans (Hb34.out.mono Hb3.out.size)
        have HB4 : Hid (VRow w4 w.heap.size [.int .i64 f, .int .i64 a, .int .i64 u, .int .i64 t]) := HB3.out.below Hb34.out
        clear hb3 HL c0 c1 c2 c3 cz d0 d1 d2 d3 hlt0 hd hV4 hb4
        go_wp2_with (at_builtin; refine wpList_appendRun rfl _ _ 40 rfl _ _ rfl rfl _ _ hrun ?_)
        clear hrun
        obtain ⟨cz, c0, c1, c2, c3⟩ := four_vrow HB4.out
        have Hw3 : Hid (w.heap.size < w3.heap.size) := HB3.out.1
        have hlt4 := Hgw.out w4 Hb4.out
        obtain ⟨d0, d1, d2, d3⟩ := HC.out w4 Hb4.out k hkl
        have hsk := Hs.out
        rw [← hsk] at d0 d1 d2 d3
        simp only at d0 d1 d2 d3
        clear hsk
        have hsf := Hs.out
        obtain ⟨_, hs0⟩ := Hsame.out
        have HPut : Hid (putS l ⟨f, a, u, t⟩ = (l.take k ++ [⟨f, a, u, t⟩]) ++ l.drop k) := by
          show _ = _
          unfold putS
          have hk1 : aheadN ⟨f, a, u, t⟩ l < l.length := by rw [← Hn.out]; exact hkl
          have e1 : l[aheadN ⟨f, a, u, t⟩ l] = l[k] := by congr 1; exact Hn.out.symm
          rw [dif_pos hk1, if_neg (by rw [e1]; exact hs0), ← Hn.out]
          simp
        rw [← hsf] at hs0
        simp only at hs0
        clear hsf
        have HA8 : Hid (∀ W, Below w4.heap.size w4 W → ∃ g8 c8 w8 g9 c9 w9, (Builtin.append_ #[40, 40] 40 #[.slice (some ⟨g4, 0, none⟩) k c4, .slice (some ⟨W.heap.size, 0, none⟩) 1 1]).run Tryz.prog (W.alloc (.cells #[.int .i64 f, .int .i64 a, .int .i64 u, .int .i64 t] 83)) = .ok (.slice (some ⟨g8, 0, none⟩) (k + 1) c8) w8 ∧ (Builtin.append_ #[40, 40] 40 #[.slice (some ⟨g8, 0, none⟩) (k + 1) c8, .slice (some ⟨g, k * 4, none⟩) (l.length - k) (c - k)]).run Tryz.prog w8 = .ok (.slice (some ⟨g9, 0, none⟩) (putS l ⟨f, a, u, t⟩).length c9) w9 ∧ PutTold (putS l ⟨f, a, u, t⟩) w w9 (.returned (.slice (some ⟨g9, 0, none⟩) (putS l ⟨f, a, u, t⟩).length c9))) := fun W hW => by
          have hbw : Below w.heap.size w W := Hb4.out.trans (hW.mono Hb4.out.size)
          have hs3 : w3.heap.size ≤ W.heap.size := Nat.le_trans Hb34.out.size hW.size
          have hal : Below W.heap.size W (W.alloc (.cells #[.int .i64 f, .int .i64 a, .int .i64 u, .int .i64 t] 83)) := (Below.refl _ _).alloc (Nat.le_refl _) _
          obtain ⟨g8, c8, w8, hrun8, hV8, hb8⟩ := snAppend (B := w3.heap.size) (l := l.take k) (by rw [hkl4]; exact (HV4.out.below hW).below hal) (Nat.le_trans hs3 hal.size) (some ⟨W.heap.size, 0, none⟩) 1 1 [⟨f, a, u, t⟩] rfl (sn_one W _ _ _ _ _) (by rw [hkl4]; simp only [List.length_singleton]; omega) 40
          rw [hkl4] at hrun8
          have hb08 : Below w.heap.size w w8 := (hbw.trans (hal.mono hbw.size)).trans (hb8.mono (Nat.le_of_lt Hw3.out))
          have hl8 : (l.take k ++ ([⟨f, a, u, t⟩] : List SnM)).length = k + 1 := by rw [List.length_append, hkl4]; rfl
          obtain ⟨g9, c9, w9, h1, h2, h3⟩ := snAppend hV8 (Nat.le_trans (Nat.le_trans hs3 hal.size) hb8.size) (some ⟨g, k * 4, none⟩) (l.length - k) (c - k) (l.drop k) (by rw [List.length_drop]) ((HV.out w8 hb08).part k (l.drop k) (fun i hi => ⟨by simp only [List.length_drop] at hi; omega, by rw [List.getElem_drop]⟩)) (by rw [hl8, List.length_drop]; omega) 40
          rw [← HPut.out] at h1 h2
          rw [hl8] at hrun8 h1
          exact ⟨g8, c8, w8, g9, c9, w9, hrun8, h1, g9, c9, rfl, h2.lower (Nat.le_of_lt Hw3.out), hb08.trans (h3.mono (Nat.le_of_lt Hw3.out))⟩
        have HB4' : Hid (∀ q, VRow (w4.drewN q) w.heap.size [.int .i64 f, .int .i64 a, .int .i64 u, .int .i64 t]) := fun q => HB4.out.below (below_drewN (Below.refl _ _) _)
        have HC4 : Hid (∀ q, Below w.heap.size w (w4.drewN q)) := fun q => below_drewN Hb4.out _
        have hckl : k < c := by omega
        clear HV HPut Hw3 Hbd HA1 Hs Hn HB HB3 HB4 HV4 Hb34 Hb3 Hsame HC Hb hkl4
        have hs1 : sf ≠ f ∨ (f = sf ∧ sa ≠ a) := by
          by_cases h : sf = f
          · exact .inr ⟨h.symm, fun h' => hs0 ⟨h, h'⟩⟩
          · exact .inl h
        clear hs0
        rcases hs1 with hs1 | ⟨rfl, hs1⟩
        all_goals
          go_quiet (fail)
          obtain ⟨w5, hw5⟩ : ∃ w5, w5 = w4.drewN nq := ⟨_, rfl⟩
          have hf5 := HB4'.out nq
          have hb5 := HC4.out nq
          obtain ⟨g8, c8, w8, g9, c9, w9, hrun8, hrun9, hT9⟩ := HA8.out (w4.drewN nq) (below_drewN (Below.refl _ _) _)
          rw [← hw5] at hf5 hb5 hrun8 ⊢
          have HT9 : Hid (PutTold (putS l _) w w9 (.returned (.slice (some ⟨g9, 0, none⟩) (putS l _).length c9))) := hT9
          clear c0 c1 c2 c3 cz d0 d1 d2 d3 hlt4 hw5 hT9 HA8
          obtain ⟨cz, c0, c1, c2, c3⟩ := four_vrow hf5
          have hlt5 := Hgw.out w5 hb5
          clear hf5 hb5 HB4' HC4 Hgw
          go_wp2_with (at_builtin; (first | refine wpList_appendRun rfl _ _ 40 rfl _ _ rfl rfl _ _ hrun8 ?_ | refine wpList_appendRun rfl _ _ 40 rfl _ _ rfl rfl _ _ hrun9 ?_))
          go_ret
          exact HT9.out
end Go.Proofs.YtclcnillnfkjoaaGreatDoor
