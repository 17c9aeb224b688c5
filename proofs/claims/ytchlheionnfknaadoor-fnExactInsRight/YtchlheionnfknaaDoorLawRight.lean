/- laws.FnExactInsRight. -/
import Derived.Test.YtchlheionnfknaaDoorRightW
import Derived.Test.YtchlheionnfknaaDoorPrgSz
import Derived.Test.YtchlheionnfknaaDoorPrgEq
namespace Go.Proofs.YtchlheionnfknaaDoor
open Go.RowKit

set_option maxRecDepth 100000 in
set_option maxHeartbeats 3200000 in
theorem lawExactInsRight (v0 v1 v2 : Value) (w : World) (i0 : IsProgram w v0) (i1 : IsI64 w v1) (i2 : IsIns w v2) (tab : Tab w) :
    Calls Tryd.prog 7 #[v0, v1, v2] w fun e w' => e = .returned (.bool true) ∧ Below w.heap.size w w' := by
  obtain ⟨v, p, rfl, hr, _⟩ := i0
  obtain ⟨f, rfl, _⟩ := i1
  obtain ⟨op, a, rfl, _, _⟩ := i2
  have Hr : Hid (FnRow 0 w v p) := hr
  have Ht : Hid (Tab w) := tab
  obtain ⟨A, cap, rfl⟩ := hr.form
  clear hr tab
  obtain ⟨x0, x1, x2⟩ := boxes_new w #[.slice A p.length cap] #[.int .i64 op, .int .i64 a] 29 31
  have X0 : Hid (Box _ _ _) := x0
  have X1 : Hid (Box _ _ _) := x1
  have X2 : Hid (Below _ _ _) := x2
  clear x0 x1 x2
  go_enter Tryd.func7, Tryd.ntmps7
  go_wp2_with fail
  refine (szPrg _ p 1048576 _ (Hr.out.below X2.out) (by omega) (by omega)).mono ?_
  rintro e w1 ⟨rfl, hb1⟩
  have Hb1 : Hid (Below w.heap.size w w1) := X2.out.trans (hb1.mono X2.out.size)
  have Hk : Hid (∀ w', Below w1.heap.size w1 w' → w'.cell? ⟨w.heap.size, 0, none⟩ = some (.slice A p.length cap) ∧ w'.cell? ⟨w.heap.size + 1, 0, none⟩ = some (.int .i64 op) ∧ w'.cell? ⟨w.heap.size + 1, 1, none⟩ = some (.int .i64 a) ∧ w.heap.size + 1 < w'.heap.size ∧ FnRow 0 w' (.slice A p.length cap) p ∧ Tab w') := by
    intro w' h
    have b0 := (X0.out.below hb1).below h
    have b1 := (X1.out.below hb1).below h
    exact ⟨b0.at0, b1.at0, b1.at1, b1.1, (Hr.out.below Hb1.out).below h, (Ht.out.below Hb1.out).below h⟩
  clear hb1 X0 X1 X2 Hr Ht
  by_cases hbulk : bulk p ≤ 1048576
  · rw [show less 1048576 (bulk p) = 1048576 - bulk p by unfold less; rw [if_pos (by omega)]]
    obtain ⟨c0, c1, c2, hz, _, _⟩ := Hk.out w1 (Below.refl _ _)
    go_upto_region 5 with fail
    go_cut [8] (fun x wc => x = .bool (rightM p f op a) ∧ Below w1.heap.size w1 wc)
    case first =>
      go_region_with (first
        | (go_at_call 13; refine (toPrg _ p _ (Hk.out _ (by first | exact (Below.refl _ _).drew | exact hbI)).2.2.2.2.1 hbulk).mono ?_; rintro e wP ⟨vP, rfl, hP, hbP⟩
           have hbP' : Below w1.heap.size w1 wP := by first | exact (Below.refl _ _).drew.trans hbP | exact hbI.trans (hbP.mono hbI.size)
           obtain ⟨p0, p1, p2, pz, _, _⟩ := Hk.out wP hbP')
        | (go_at_call 14; refine (toIns op a _).mono ?_; rintro e wI ⟨rfl, hbI0⟩
           have hbI : Below w1.heap.size w1 wI := by first | exact (Below.refl _ _).drew.trans hbI0 | exact hbP'.trans (hbI0.mono hbP'.size)
           obtain ⟨j0, j1, j2, jz, _, _⟩ := Hk.out wI hbI)
        | (go_at_call 19; refine (specRight vP p f op a _ (by first | exact hP | exact hP.below hbI0)).mono ?_; rintro e wT ⟨rfl, hbT⟩
           have hbT' : Below w1.heap.size w1 wT := by first | exact hbI.trans (hbT.mono hbI.size) | exact hbP'.trans (hbT.mono hbP'.size)))
      all_goals
        go_wp2_with fail
        go_meet
        exact ⟨rfl, hbT'⟩
    case rest =>
      obtain ⟨rfl, hwc⟩ := hcut
      have Hc : Hid (Below w1.heap.size w1 wc) := hwc
      clear c0 c1 c2 hz hwc
      obtain ⟨c0, c1, c2, hz, _, _⟩ := Hk.out wc Hc.out
      go_wp2_with fail
      refine (toPrg _ p _ (Hk.out _ Hc.out).2.2.2.2.1 hbulk).mono ?_
      rintro e w3 ⟨vX, rfl, hX, hb3⟩
      have Hb3 : Hid (Below w1.heap.size w1 w3) := Hc.out.trans (hb3.mono Hc.out.size)
      obtain ⟨AX, capX, rfl⟩ := hX.form
      have Hk2 : Hid (∀ w', Below (w3.alloc (.cells #[.slice AX p.length capX] 36)).heap.size (w3.alloc (.cells #[.slice AX p.length capX] 36)) w' →
          w'.cell? ⟨w3.heap.size, 0, none⟩ = some (.slice AX p.length capX) ∧ w3.heap.size < w'.heap.size ∧ FnRow 0 w' (.slice AX p.length capX) p ∧ Below w1.heap.size w1 w') := by
        intro w' h
        have b0 := (box_new w3 #[.slice AX p.length capX] 36).below h
        exact ⟨b0.at0, b0.1, ((hX.below ((Below.refl _ _).alloc (Nat.le_refl _) _)).below h).lower (Nat.zero_le _), (Hb3.out.alloc Hb3.out.size _).trans (h.mono (by have := Hb3.out.size; simp; omega))⟩
      clear c0 c1 c2 hz hX hb3
      obtain ⟨c0, c1, c2, hz, _, _⟩ := Hk.out w3 Hb3.out
      go_upto_region 7 with fail
      go_cut [10] (fun x wd => x = .bool (rightM p f op a) ∧ Below (w3.alloc (.cells #[.slice AX p.length capX] 36)).heap.size (w3.alloc (.cells #[.slice AX p.length capX] 36)) wd)
      case first =>
        go_region_with (first
          | (go_at_call 14; refine (toIns op a _).mono ?_; rintro e wI ⟨rfl, hbI0⟩
             have hbI := (Below.refl (w3.alloc (.cells #[.slice AX p.length capX] 36)).heap.size (w3.alloc (.cells #[.slice AX p.length capX] 36))).drew.trans hbI0
             obtain ⟨j0, j1, j2, j3⟩ := Hk2.out wI hbI)
          | (go_at_call 20; refine (implRight _ p f op a _ (Hk.out _ j3).2.2.2.2.2 j2).mono ?_; rintro e wT ⟨rfl, hbT⟩
             have hbT' := hbI.trans (hbT.mono hbI.size)))
        all_goals
          go_wp2_with fail
          go_meet
          exact ⟨rfl, hbT'⟩
      case rest =>
        obtain ⟨rfl, hwd⟩ := hcut
        obtain ⟨j0, j1, j2, j3⟩ := Hk2.out wc hwd
        clear c0 c1 c2 hz
        obtain ⟨c0, c1, c2, hz, _, _⟩ := Hk.out wc j3
        have Hd : Hid (Below (w3.alloc (.cells #[.slice AX p.length capX] 36)).heap.size (w3.alloc (.cells #[.slice AX p.length capX] 36)) wc) := hwd
        have Hd1 : Hid (Below w1.heap.size w1 wc) := j3
        have Hd2 : Hid (FnRow 0 wc (.slice AX p.length capX) p) := j2
        clear hwd j3 j2
        go_upto_region 10 with fail
        go_cut [36] (fun x we => x = .bool false ∧ Below w.heap.size w we)
        case first =>
          go_region_with (first
            | (go_at_call 13; refine (toPrg _ p _ (Hk.out _ Hd1.out.drew).2.2.2.2.1 hbulk).mono ?_; rintro e wP ⟨vP, rfl, hP, hbP⟩
               obtain ⟨k0, k1, _, _⟩ := Hk2.out wP (Hd.out.drew.trans (hbP.mono Hd.out.size)))
            | (go_at_call 16; refine (eqPrg _ _ p _ (Hd2.out.below ((Below.refl _ _).drew.trans hbP)) hP).mono ?_; rintro e wQ ⟨rfl, hbQ⟩
               have hbQ' : Below w.heap.size w wQ := (Hb1.out.trans (Hd1.out.mono Hb1.out.size)).drew.trans ((hbP.trans (hbQ.mono hbP.size)).mono (Nat.le_trans Hb1.out.size Hd1.out.size))))
          all_goals
            go_wp2_with fail
            go_meet
            exact ⟨rfl, hbQ'⟩
        case rest =>
          obtain ⟨rfl, hwe⟩ := hcut
          have He : Hid (Below w.heap.size w wc) := hwe
          clear hwe
          go_wp2_with fail
          go_ret
          exact ⟨rfl, He.out⟩
  · rw [show less 1048576 (bulk p) = -1 by unfold less; rw [if_neg (by omega)]]
    go_wp2_with fail
    go_ret
    exact ⟨rfl, Hb1.out⟩
end Go.Proofs.YtchlheionnfknaaDoor
