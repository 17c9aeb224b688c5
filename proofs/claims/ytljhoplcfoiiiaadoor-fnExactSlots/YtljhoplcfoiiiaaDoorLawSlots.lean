/- laws.FnExactSlots. -/
import Derived.Test.YtljhoplcfoiiiaaDoorSlotsW
import Derived.Test.YtljhoplcfoiiiaaDoorPrgSz
import Derived.Test.YtljhoplcfoiiiaaDoorPrgEq
import Derived.Test.YtljhoplcfoiiiaaDoorArgs
namespace Go.Proofs.YtljhoplcfoiiiaaDoor
open Go.RowKit

set_option maxRecDepth 100000 in
set_option maxHeartbeats 6400000 in
theorem lawExactSlots (v0 v1 v2 : Value) (w : World) (i0 : IsProgram w v0) (i1 : IsI64 w v1) (i2 : IsI64 w v2) (tab : Tab w) :
    Calls Tryd.prog 4 #[v0, v1, v2] w fun e w' => e = .returned (.bool true) ∧ Below w.heap.size w w' := by
  obtain ⟨v, p, rfl, hr, hok⟩ := i0
  obtain ⟨f, rfl, _⟩ := i1
  obtain ⟨a, rfl, _⟩ := i2
  have Hr : Hid (FnRow 0 w v p) := hr
  have Ht : Hid (Tab w) := tab
  have Hok : Hid (∀ g ∈ p, g.ok) := hok
  obtain ⟨A, cap, rfl⟩ := hr.form
  clear hr tab hok
  have X0 : Hid (Box _ w.heap.size #[.slice A p.length cap]) := box_new w #[.slice A p.length cap] 38
  have X2 : Hid (Below w.heap.size w (w.alloc (.cells #[.slice A p.length cap] 38))) := (Below.refl _ _).alloc (Nat.le_refl _) _
  go_enter Tryd.func4, Tryd.ntmps4
  go_wp2_with fail
  refine (szPrg _ p 1048576 _ (Hr.out.below X2.out) (by omega) (by omega)).mono ?_
  rintro e w1 ⟨rfl, hb1⟩
  have Hb1 : Hid (Below w.heap.size w w1) := X2.out.trans (hb1.mono X2.out.size)
  have HB1 : Hid (Box w1 w.heap.size #[.slice A p.length cap]) := X0.out.below hb1
  clear hb1 X0 X2
  by_cases hbulk : bulk p ≤ 1048576
  · rw [show less 1048576 (bulk p) = 1048576 - bulk p by unfold less; rw [if_pos (by omega)]]
    have c0 := HB1.out.at0
    have cz := HB1.out.1
    go_wp2_with fail
    refine (toPrg _ p _ (Hr.out.below Hb1.out) hbulk).mono ?_
    rintro e wA ⟨vS, rfl, hS, hbA⟩
    have HbA : Hid (Below w.heap.size w wA) := Hb1.out.trans (hbA.mono Hb1.out.size)
    have HBA : Hid (Box wA w.heap.size #[.slice A p.length cap]) := HB1.out.below hbA
    have HS : Hid (FnRow 0 wA vS p) := hS.lower (Nat.zero_le _)
    obtain ⟨AS, capS, rfl⟩ := hS.form
    clear hbA hS c0 cz HB1 Hb1
    have c0 := HBA.out.at0
    have cz := HBA.out.1
    go_wp2_with fail
    refine (specSlots _ p f a _ HS.out Hok.out).mono ?_
    rintro e w2 ⟨z, hs, rfl, hans, hz, hb2⟩
    have Hb2 : Hid (Below w.heap.size w w2) := HbA.out.trans (hb2.mono HbA.out.size)
    have HB2 : Hid (Box w2 w.heap.size #[.slice A p.length cap]) := HBA.out.below hb2
    have Hans : Hid (AnsIs p f hs ∧ z = slotsM p f hs a) := ⟨hans, hz⟩
    clear hb2 hans hz c0 cz HBA HbA HS
    have c0 := HB2.out.at0
    have cz := HB2.out.1
    go_wp2_with fail
    refine (toPrg _ p _ (Hr.out.below Hb2.out) hbulk).mono ?_
    rintro e w3 ⟨vX, rfl, hX, hb3⟩
    have Hb3 : Hid (Below w.heap.size w w3) := Hb2.out.trans (hb3.mono Hb2.out.size)
    have HB3 : Hid (Box w3 w.heap.size #[.slice A p.length cap]) := HB2.out.below hb3
    have HX : Hid (FnRow 0 w3 vX p) := hX.lower (Nat.zero_le _)
    obtain ⟨AX, capX, rfl⟩ := hX.form
    clear hX hb3 c0 cz HB2 Hb2
    have hal : Below w3.heap.size w3 (w3.alloc (.cells #[.slice AX p.length capX] 25)) := (Below.refl _ _).alloc (Nat.le_refl _) _
    have hal' := Hb3.out.trans (hal.mono Hb3.out.size)
    have HI := implSlots (.slice AX p.length capX) p f a _ (Ht.out.below hal') (HX.out.below hal)
    have HIh : Hid (Calls Tryd.prog 13 #[.agg #[.slice AX p.length capX], .int .i64 f, .int .i64 a] (w3.alloc (.cells #[.slice AX p.length capX] 25)) fun e w' => SlotsTold p f a (w3.alloc (.cells #[.slice AX p.length capX] 25)) w' e) := HI
    have Hal : Hid (Below w3.heap.size w3 (w3.alloc (.cells #[.slice AX p.length capX] 25))) := hal
    clear HI hal hal'
    go_wp2_with fail
    refine Calls.mono (R := fun e w' => SlotsTold p f a (w3.alloc (.cells #[.slice AX p.length capX] 25)) w' e) HIh.out ?_
    rintro e w5 ⟨z1, hs1, rfl, hans1, hz1, hb5⟩
    have he : z1 = z := by rw [hz1, Hans.out.2, hans1.unique Hans.out.1]
    clear hz1
    subst he
    have hb35 : Below w3.heap.size w3 w5 := Hal.out.trans (hb5.mono (by simp))
    have HBX : Hid (Box w5 w3.heap.size #[.slice AX p.length capX]) := (box_new w3 #[.slice AX p.length capX] 25).below hb5
    have Hb5 : Hid (Below w.heap.size w w5) := Hb3.out.trans (hb35.mono Hb3.out.size)
    have HB5 : Hid (Box w5 w.heap.size #[.slice A p.length cap]) := HB3.out.below hb35
    have HX5 : Hid (FnRow 0 w5 (.slice AX p.length capX) p) := HX.out.below hb35
    clear hans1 hb5 hb35 HIh Hal HX HB3 Hb3
    have c0 := HB5.out.at0
    have cz := HB5.out.1
    have d0 := HBX.out.at0
    have dz := HBX.out.1
    go_upto_region 10 with fail
    go_cut [34] (fun x wd => x = .bool false ∧ Below w5.heap.size w5 wd)
    case first =>
      have HK6 : Hid (∀ wP, Below w5.heap.size w5 wP → wP.cell? ⟨w.heap.size, 0, none⟩ = some (.slice A p.length cap) ∧ wP.cell? ⟨w3.heap.size, 0, none⟩ = some (.slice AX p.length capX) ∧ FnRow 0 wP (.slice A p.length cap) p ∧ FnRow 0 wP (.slice AX p.length capX) p ∧ w.heap.size < wP.heap.size ∧ w3.heap.size < wP.heap.size) := fun wP hb =>
        ⟨(HB5.out.below hb).at0, (HBX.out.below hb).at0, (Hr.out.below Hb5.out).below hb, HX5.out.below hb, (HB5.out.below hb).1, (HBX.out.below hb).1⟩
      obtain ⟨k0, k1, k2, k3, k4, k5⟩ := HK6.out w5.drew (Below.refl _ _).drew
      have HR2 : Hid (FnRow 0 w5.drew (.slice A p.length cap) p) := k2
      clear k2 k3
      go_region_with (first
        | (go_at_call 12; refine (toPrg _ p _ HR2.out hbulk).mono ?_; rintro e wP ⟨vP, rfl, hP, hbP⟩
           have hbP' : Below w5.heap.size w5 wP := (Below.refl _ _).drew.trans hbP
           obtain ⟨j0, j1, _, j3, j4, j5⟩ := HK6.out wP hbP')
        | (go_at_call 14; refine (eqPrg _ _ p _ j3 hP).mono ?_; rintro e wQ ⟨rfl, hbQ⟩
           have hbQ' : Below w5.heap.size w5 wQ := hbP'.trans (hbQ.mono hbP'.size)))
      all_goals
        go_wp2_with fail
        go_meet
        exact ⟨rfl, hbQ'⟩
    case rest =>
      obtain ⟨rfl, hb7⟩ := hcut
      have Hb7 : Hid (Below w.heap.size w wc) := Hb5.out.trans (hb7.mono Hb5.out.size)
      clear hb7
      go_wp2_with fail
      go_ret
      exact ⟨rfl, Hb7.out⟩
  · rw [show less 1048576 (bulk p) = -1 by unfold less; rw [if_neg (by omega)]]
    go_wp2_with fail
    go_ret
    exact ⟨rfl, Hb1.out⟩
end Go.Proofs.YtljhoplcfoiiiaaDoor
