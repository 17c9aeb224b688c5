/- spec.l07Put: a place that is there. -/
import Derived.Test.YtclcnillnfkjoaaGreatDoorSnPutA
namespace Go.Proofs.YtclcnillnfkjoaaGreatDoor
open Go.RowKit

set_option maxRecDepth 100000 in
set_option maxHeartbeats 12800000 in
theorem specPutSame {B : Nat} (g c : Nat) (l : List SnM) (f a u t : Int) (w : World) (hV : SnV B w (.slice (some ⟨g, 0, none⟩) l.length c) l) (hl : l.length ≤ 1000000) (hu : 0 ≤ u ∧ u ≤ 1000000) (ht : 0 ≤ t ∧ t ≤ 1000000) (hb : ∀ s ∈ l, (0 ≤ s.went ∧ s.went ≤ 1000000) ∧ 0 ≤ s.past ∧ s.past ≤ 1000000) (hsame : ∃ h : aheadN ⟨f, a, u, t⟩ l < l.length, l[aheadN ⟨f, a, u, t⟩ l].func = f ∧ l[aheadN ⟨f, a, u, t⟩ l].pc = a) :
    Calls Tryz.prog 47 #[.slice (some ⟨g, 0, none⟩) l.length c, .agg #[.int .i64 f, .int .i64 a, .int .i64 u, .int .i64 t]] w fun e w' => PutTold (putS l ⟨f, a, u, t⟩) w w' e := by
  have HV : Hid (∀ W, Below w.heap.size w W → SnV B W (.slice (some ⟨g, 0, none⟩) l.length c) l) := fun W h => hV.below h
  obtain ⟨hc, _, hg, hcell⟩ := hV.cells
  have HC : Hid (∀ W, Below w.heap.size w W → ∀ i (h : i < l.length), W.cell? ⟨g, i * 4, none⟩ = some (.int .i64 l[i].func) ∧ W.cell? ⟨g, i * 4 + 1, none⟩ = some (.int .i64 l[i].pc) ∧ W.cell? ⟨g, i * 4 + 2, none⟩ = some (.int .i64 l[i].went) ∧ W.cell? ⟨g, i * 4 + 3, none⟩ = some (.int .i64 l[i].past)) := fun W h i hi => ((hV.below h).cells).2.2.2 i hi
  obtain ⟨n, hn⟩ : ∃ n, n = aheadN ⟨f, a, u, t⟩ l := ⟨_, rfl⟩
  have Hn : Hid (n = aheadN ⟨f, a, u, t⟩ l) := hn
  have hnl : n ≤ l.length := by rw [hn]; exact aheadN_le _ _
  have hgw : ∀ W, Below w.heap.size w W → g < W.heap.size := fun W h => Nat.lt_of_lt_of_le hg h.size
  have Hgw : Hid (∀ W, Below w.heap.size w W → g < W.heap.size) := hgw
  have Hbd : Hid (∀ s ∈ l, (0 ≤ s.went ∧ s.went ≤ 1000000) ∧ 0 ≤ s.past ∧ s.past ≤ 1000000) := hb
  -- the first append: what is ahead
  have HA1 : Hid (∀ W, Below w.heap.size w W → AppT W.heap.size (W.alloc (.cells #[] 83)) W.heap.size 0 [] (some ⟨g, 0, none⟩) n c (l.take n)) := fun W h => by
    have hw : Below w.heap.size w (W.alloc (.cells #[] 83)) := h.alloc h.size _
    have h1 := (hV.below hw).part 0 (l.take n) (fun i hi => ⟨by simp only [List.length_take] at hi; omega, by simp⟩)
    exact snAppend (sn_nil W.heap.size W (Nat.le_refl _)) (by simp) _ n c (l.take n) (by rw [List.length_take]; omega) h1 (by simp only [List.length_take, List.length_nil]; omega) _
  have hlt : n < l.length := by obtain ⟨h1, _⟩ := hsame; rw [hn]; exact h1
  have Hsame : Hid (∃ h : n < l.length, l[n].func = f ∧ l[n].pc = a) := by rw [← hn] at hsame; exact hsame
  clear hn hgw hg hb hcell hV hsame
  have X0 : Hid (VRow _ w.heap.size [.int .i64 f, .int .i64 a, .int .i64 u, .int .i64 t]) := vrow_new w #[.int .i64 f, .int .i64 a, .int .i64 u, .int .i64 t] 83
  have X2 : Hid (Below w.heap.size w (w.alloc (.cells #[.int .i64 f, .int .i64 a, .int .i64 u, .int .i64 t] 83))) := (Below.refl _ _).alloc (Nat.le_refl _) _
  go_enter Tryz.func47, Tryz.ntmps47
  go_wp2_with fail
  go_loopg [5] (n) (fun g i wr => ∃ k : Nat, k ≤ n ∧ i = .int .i64 (k : Int) ∧ n ≤ k + g ∧ Below w.heap.size w wr ∧ VRow wr w.heap.size [.int .i64 f, .int .i64 a, .int .i64 u, .int .i64 t])
  case atStart => exact ⟨0, Nat.zero_le _, rfl, by omega, X2.out, X0.out⟩
  case round =>
    clear X0 X2
    obtain ⟨k, hk, rfl, hkg, hbw, hB⟩ := hrel
    have Hb : Hid (Below w.heap.size w wr) := hbw
    have HB : Hid (VRow wr w.heap.size [.int .i64 f, .int .i64 a, .int .i64 u, .int .i64 t]) := hB
    obtain ⟨cz, c0, c1, c2, c3⟩ := four_vrow hB
    clear hbw hB
    have hkl : k < l.length := by omega
    have hlt0 := Hgw.out wr Hb.out
    obtain ⟨d0, d1, d2, d3⟩ := HC.out wr Hb.out k hkl
    have HL : Hid (∀ W, Calls Tryz.prog 76 #[.agg #[.int .i64 l[k].func, .int .i64 l[k].pc, .int .i64 l[k].went, .int .i64 l[k].past], .agg #[.int .i64 f, .int .i64 a, .int .i64 u, .int .i64 t]] W fun e w' => e = .returned (.bool (decide (k < n))) ∧ Below W.heap.size W w') := fun W => by
      have h := specLess l[k] ⟨f, a, u, t⟩ W
      have e : decide (snLess l[k] ⟨f, a, u, t⟩) = decide (k < n) := by
        have := ahead_iff ⟨f, a, u, t⟩ l k hkl (by rw [← Hn.out]; exact hk)
        rw [← Hn.out] at this
        exact decide_eq_decide.2 this
      rw [e] at h
      exact h
    obtain ⟨s, hs⟩ : ∃ s, s = l[k] := ⟨_, rfl⟩
    have Hs : Hid (s = l[k]) := hs
    rw [← hs] at d0 d1 d2 d3 HL
    clear hs
    obtain ⟨sf, sa, su, st⟩ := s
    simp only at d0 d1 d2 d3 HL
    by_cases hkn : k < n
    · have hd : decide (k < n) = true := by simpa using hkn
      rw [hd] at HL
      go_wp2_with fail
      go_cut [18] (fun q wc => q = .bool true ∧ Below wr.heap.size wr wc)
      case first =>
        go_region_with (first | (go_at_call 76; refine (HL.out _).mono ?_; rintro e w3 ⟨rfl, hb3⟩))
        all_goals
          go_wp2_with fail
          go_meet
          exact ⟨rfl, (Below.refl _ _).drew.trans (hb3.mono (Nat.le_refl _))⟩
      case rest =>
        obtain ⟨rfl, hb3⟩ := hcut
        rename World => w3
        have Hb3 : Hid (Below w.heap.size w w3) := Hb.out.trans (hb3.mono Hb.out.size)
        have HB3 : Hid (VRow w3 w.heap.size [.int .i64 f, .int .i64 a, .int .i64 u, .int .i64 t]) := HB.out.below hb3
        clear hb3 HL c0 c1 c2 c3 cz d0 d1 d2 d3 hlt0
        go_wp2_with fail
        go_roundg (gk - 1)
        case measure => omega
        case rel => exact ⟨k + 1, by omega, by go_num, by omega, Hb3.out, HB3.out⟩
    · have hd : decide (k < n) = false := by simpa using hkn
      have hke : k = n := by omega
      subst hke
      rw [hd] at HL
      go_wp2_with fail
      go_cut [18] (fun q wc => q = .bool false ∧ Below wr.heap.size wr wc)
      case first =>
        go_region_with (first | (go_at_call 76; refine (HL.out _).mono ?_; rintro e w3 ⟨rfl, hb3⟩))
        all_goals
          go_wp2_with fail
          go_meet
          exact ⟨rfl, (Below.refl _ _).drew.trans (hb3.mono (Nat.le_refl _))⟩
      case rest =>
        obtain ⟨rfl, hb3⟩ := hcut
        rename World => w3
        have Hb3 : Hid (Below w.heap.size w w3) := Hb.out.trans (hb3.mono Hb.out.size)
        have HB3 : Hid (VRow w3 w.heap.size [.int .i64 f, .int .i64 a, .int .i64 u, .int .i64 t]) := HB.out.below hb3
        obtain ⟨g4, c4, w4, hrun, hV4, hb4⟩ := HA1.out w3 Hb3.out
        simp only [List.nil_append, List.length_nil] at hrun hV4
        have hkl4 : (l.take k).length = k := by rw [List.length_take]; omega
        rw [hkl4] at hrun hV4
        have HV4 : Hid (SnV w3.heap.size w4 (.slice (some ⟨g4, 0, none⟩) k c4) (l.take k)) := hV4
        have Hb34 : Hid (Below w3.heap.size w3 w4) := ((Below.refl _ _).alloc (Nat.le_refl _) _).trans hb4
        have Hb4 : Hid (Below w.heap.size w w4) := Hb3.out.trans (Hb34.out.mono Hb3.out.size)
        have HB4 : Hid (VRow w4 w.heap.size [.int .i64 f, .int .i64 a, .int .i64 u, .int .i64 t]) := HB3.out.below Hb34.out
        clear hb3 HL c0 c1 c2 c3 cz d0 d1 d2 d3 hlt0 hd hV4 hb4
        go_wp2_with (at_builtin; refine wpList_appendRun rfl _ _ 40 rfl _ _ rfl rfl _ _ hrun ?_)
        clear hrun
        obtain ⟨cz, c0, c1, c2, c3⟩ := four_vrow HB4.out
        have Hw3 : Hid (w.heap.size < w3.heap.size) := HB3.out.1
        have hlt4 := Hgw.out w4 Hb4.out
        obtain ⟨d0, d1, d2, d3⟩ := HC.out w4 Hb4.out k hkl
        have hsk := Hs.out
        rw [← hsk] at d0 d1 d2 d3
        simp only at d0 d1 d2 d3
        clear hsk
        have hsf := Hs.out
        obtain ⟨_, hs1, hs2⟩ := Hsame.out
        rw [← hsf] at hs1 hs2
        obtain rfl : sf = f := hs1
        obtain rfl : sa = a := hs2
        clear hsf
        have hsb := Hbd.out l[k] (List.getElem_mem hkl)
        have hsk := Hs.out
        rw [← hsk] at hsb
        simp only at hsb
        clear hsk
        have Hw1 : Hid (IntKind.i64.wrap (u + su) = u + su) := by show IntKind.i64.wrap (u + su) = _; rw [IntKind.wrap_i64]; omega
        have Hw2 : Hid (IntKind.i64.wrap (t + st) = t + st) := by show IntKind.i64.wrap (t + st) = _; rw [IntKind.wrap_i64]; omega
        go_quiet (fail)
        go_wp2_with fail
        have HP4 : Hid (PutW w w3 g4 k c4 (l.take k) sf sa u t (w4.drewN nq)) := ⟨below_drewN Hb4.out _, by have := Hb34.out.size; simpa using this, HV4.out.below (below_drewN (Below.refl _ _) _), HB4.out.below (below_drewN (Below.refl _ _) _)⟩
        obtain ⟨w5, hw5⟩ : ∃ w5, w5 = w4.drewN nq := ⟨_, rfl⟩
        rw [← hw5] at HP4 ⊢
        clear c0 c1 c2 c3 cz d0 d1 d2 d3 hlt4 hw5
        obtain ⟨cz, c0, c1, c2, c3⟩ := four_vrow HP4.out.2.2.2
        have f2 := (HP4.out.2.2.2.2 2 (by simp)).2
        have hlt4 := Hgw.out w5 HP4.out.1
        obtain ⟨d0, d1, d2, d3⟩ := HC.out w5 HP4.out.1 k hkl
        have hsk := Hs.out
        rw [← hsk] at d0 d1 d2 d3
        simp only at d0 d1 d2 d3
        clear hsk
        go_cut [50] (fun _ wc => PutW w w3 g4 k c4 (l.take k) sf sa (min 1000000 (u + su)) t wc)
        case first =>
          go_region_with (go_at_call 57; refine (specMin _ _ _).mono ?_; rintro e w' ⟨rfl, hw'⟩; subst w')
          all_goals
            go_wp2_with fail
            go_meet
            rw [Hw1.out]
            exact (HP4.out.set2 Hw3.out _).drew
        case rest =>
          have HP5 : Hid (PutW w w3 g4 k c4 (l.take k) sf sa (min 1000000 (u + su)) t wc) := hcut
          clear c0 c1 c2 c3 cz d0 d1 d2 d3 hlt4 f2 HP4 hcut
          obtain ⟨cz, c0, c1, c2, c3⟩ := four_vrow HP5.out.2.2.2
          have f3 := (HP5.out.2.2.2.2 3 (by simp)).2
          have hlt4 := Hgw.out wc HP5.out.1
          obtain ⟨d0, d1, d2, d3⟩ := HC.out wc HP5.out.1 k hkl
          have hsk := Hs.out
          rw [← hsk] at d0 d1 d2 d3
          simp only at d0 d1 d2 d3
          clear hsk
          rename World => w6
          go_wp2_with fail
          go_cut [60] (fun _ wc => PutW w w3 g4 k c4 (l.take k) sf sa (min 1000000 (u + su)) (min 1000000 (t + st)) wc)
          case first =>
            go_region_with (go_at_call 57; refine (specMin _ _ _).mono ?_; rintro e w' ⟨rfl, hw'⟩; subst w')
            all_goals
              go_wp2_with fail
              go_meet
              rw [Hw2.out]
              exact (HP5.out.set3 Hw3.out _).drew
          case rest =>
            have HP6 : Hid (PutW w w3 g4 k c4 (l.take k) sf sa (min 1000000 (u + su)) (min 1000000 (t + st)) wc) := hcut
            clear c0 c1 c2 c3 cz d0 d1 d2 d3 hlt4 f3 HP5 hcut
            obtain ⟨cz, c0, c1, c2, c3⟩ := four_vrow HP6.out.2.2.2
            have HPut : Hid (putS l ⟨sf, sa, u, t⟩ = (l.take k ++ [⟨sf, sa, min 1000000 (u + su), min 1000000 (t + st)⟩]) ++ l.drop (k + 1)) := by
              show _ = _
              unfold putS
              have hk1 : aheadN ⟨sf, sa, u, t⟩ l < l.length := by rw [← Hn.out]; exact hkl
              rw [dif_pos hk1]
              have e1 : l[aheadN ⟨sf, sa, u, t⟩ l] = ⟨sf, sa, su, st⟩ := by
                rw [Hs.out]; congr 1; exact Hn.out.symm
              rw [if_pos (by rw [e1]; exact ⟨rfl, rfl⟩), e1, ← Hn.out]
              unfold bothS
              simp
            have hal : Below wc.heap.size wc (wc.alloc (.cells #[.int .i64 sf, .int .i64 sa, .int .i64 (min 1000000 (u + su)), .int .i64 (min 1000000 (t + st))] 83)) := (Below.refl _ _).alloc (Nat.le_refl _) _
            obtain ⟨g8, c8, w8, hrun8, hV8, hb8⟩ := snAppend (B := w3.heap.size) (l := l.take k) (by rw [hkl4]; exact HP6.out.2.2.1.below hal) (Nat.le_trans HP6.out.2.1 hal.size) (some ⟨wc.heap.size, 0, none⟩) 1 1 [⟨sf, sa, min 1000000 (u + su), min 1000000 (t + st)⟩] rfl (sn_one wc _ _ _ _ _) (by rw [hkl4]; simp only [List.length_singleton]; omega) 40
            rw [hkl4] at hrun8
            have Hb8 : Hid (Below w.heap.size w w8) := (HP6.out.1.trans (hal.mono HP6.out.1.size)).trans (hb8.mono (Nat.le_of_lt Hw3.out))
            have hc8 : k + 1 ≤ c8 := by have := hV8.cells.1; simpa [hkl4] using this
            have Hs8 : Hid (w3.heap.size ≤ w8.heap.size) := Nat.le_trans (Nat.le_trans HP6.out.2.1 hal.size) hb8.size
            have HA9 : Hid (∀ A m cap, m = l.length - (k + 1) → (A = some ⟨g, (k + 1) * 4, none⟩ ∨ m = 0) → ∃ g' c' w', (Builtin.append_ #[40, 40] 40 #[.slice (some ⟨g8, 0, none⟩) (l.take k ++ ([⟨sf, sa, min 1000000 (u + su), min 1000000 (t + st)⟩] : List SnM)).length c8, .slice A m cap]).run Tryz.prog w8 = .ok (.slice (some ⟨g', 0, none⟩) (putS l ⟨sf, sa, u, t⟩).length c') w' ∧ PutTold (putS l ⟨sf, sa, u, t⟩) w w' (.returned (.slice (some ⟨g', 0, none⟩) (putS l ⟨sf, sa, u, t⟩).length c'))) := fun A m cap hm hA => by
              have hsrc : SnCells w8 A (l.drop (k + 1)) := by
                rcases hA with rfl | h0
                · exact (HV.out w8 Hb8.out).part (k + 1) (l.drop (k + 1)) (fun i hi => ⟨by simp only [List.length_drop] at hi; omega, by rw [List.getElem_drop]⟩)
                · intro i hi
                  simp only [List.length_drop] at hi
                  omega
              obtain ⟨g', c', w', h1, h2, h3⟩ := snAppend hV8 Hs8.out A m cap (l.drop (k + 1)) (by rw [List.length_drop]; exact hm) hsrc (by simp only [List.length_append, List.length_singleton, List.length_drop, hkl4]; omega) 40
              rw [← HPut.out] at h1 h2
              exact ⟨g', c', w', h1, g', c', rfl, h2.lower (Nat.le_of_lt Hw3.out), Hb8.out.trans (h3.mono (Nat.le_of_lt Hw3.out))⟩
            have hkc : ((k : Int) + 1) ≤ l.length := by omega
            clear hb8 hV8 hal HP6 Hb8 Hs8 HPut Hw1 Hw2 HC HV Hgw Hbd HA1 Hs Hn HB HB3 HB4 HV4 Hb34 Hb4 Hb3 Hw3
            by_cases hcc : c = k + 1
            · subst hcc
              obtain ⟨g9, c9, w9, hrun9, hT9⟩ := HA9.out (some ⟨g, 0, none⟩) (l.length - (k + 1)) 0 rfl (.inr (by omega))
              have hl8 : (l.take k ++ ([⟨sf, sa, min 1000000 (u + su), min 1000000 (t + st)⟩] : List SnM)).length = k + 1 := by rw [List.length_append, hkl4]; rfl
              rw [hl8] at hrun8 hrun9
              have hm0 : l.length - (k + 1) = 0 := by omega
              rw [hm0] at hrun9
              have e9 := hrun9.symm.trans (run_append_none w8 g8 (k + 1) c8 0 (some ⟨g, 0, none⟩) 40 hc8)
              injection e9 with e91 e92
              rw [e91, e92] at hT9
              have HT9 : Hid (PutTold (putS l ⟨sf, sa, u, t⟩) w w8 (.returned (.slice (some ⟨g8, 0, none⟩) (k + 1) c8))) := hT9
              clear hT9 HA9 hl8 hrun9 e91 e92
              go_wp2_with (at_builtin; refine wpList_appendRun rfl _ _ 40 rfl _ _ rfl rfl _ _ hrun8 ?_)
              go_ret
              exact HT9.out
            · obtain ⟨g9, c9, w9, hrun9, hT9⟩ := HA9.out (some ⟨g, (k + 1) * 4, none⟩) (l.length - (k + 1)) (c - (k + 1)) rfl (.inl rfl)
              have HT9 : Hid (PutTold (putS l ⟨sf, sa, u, t⟩) w w9 (.returned (.slice (some ⟨g9, 0, none⟩) (putS l ⟨sf, sa, u, t⟩).length c9))) := hT9
              have hl8 : (l.take k ++ ([⟨sf, sa, min 1000000 (u + su), min 1000000 (t + st)⟩] : List SnM)).length = k + 1 := by rw [List.length_append, hkl4]; rfl
              rw [hl8] at hrun8 hrun9
              clear hT9 HA9 hl8
              go_wp2_with (at_builtin; (first | refine wpList_appendRun rfl _ _ 40 rfl _ _ rfl rfl _ _ hrun8 ?_ | refine wpList_appendRun rfl _ _ 40 rfl _ _ rfl rfl _ _ hrun9 ?_))
              go_ret
              exact HT9.out
end Go.Proofs.YtclcnillnfkjoaaGreatDoor
