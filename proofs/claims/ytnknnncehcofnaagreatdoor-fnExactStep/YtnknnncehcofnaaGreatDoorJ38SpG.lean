/- spec.l06Do: get. spec.l06Do: set. spec.l06Do: new. -/
import Derived.Test.YtnknnncehcofnaaGreatDoorJ37SpD
import Derived.Test.YtnknnncehcofnaaGreatDoorJ23MacF
import Derived.Test.YtnknnncehcofnaaGreatDoorJ24MacL
namespace Go.Proofs.YtnknnncehcofnaaGreatDoor
open Go.RowKit

set_option maxRecDepth 100000 in
set_option maxHeartbeats 3200000 in
theorem specDoGet {pr : Pr} (B m : Nat) (s : StM) (a b : Int) (U : Nat) (v : Value) (w : World) (hM : MacY pr B m w s) (hv : IRow U w v [a, b]) (hh : s.heap.length ≤ 1048576) :
    Calls Tryz.prog 112 #[.int .i64 35, v, .pointer (some ⟨m, 1, none⟩)] w fun e w' => DoT pr B m s 35 [a, b] w w' e := by
  obtain ⟨own, V, C, M⟩ := hM
  have HR : Hid (MacR pr B m w.heap.size (cutOwn w.heap.size own) V C s w (w.alloc (.cells #[.int .i64 0, .int .i64 0] 166))) := macR_new M _
  have hal : Below w.heap.size w (w.alloc (.cells #[.int .i64 0, .int .i64 0] 166)) := (Below.refl _ _).alloc (Nat.le_refl _) _
  have hd := doM_get s.heap a b
  have hd2 : (doM 35 [a, b] s.heap).2 = s.heap := by
    unfold doM
    simp only [List.getD_cons_zero, List.getD_cons_succ]
    rw [if_neg (by omega), if_neg (by omega), if_neg (by omega)]
    split
    · rfl
    · rw [if_neg (by omega)]
      split
      · rfl
      · rw [if_neg (by omega)]
  have Hd : Hid ((doM 35 [a, b] s.heap).1 = (if ¬ (1 ≤ a ∧ a ≤ s.heap.length) then (0, 13) else if ¬ (0 ≤ b ∧ b < (s.heap.getD (a - 1).toNat []).length) then (0, 12) else ((s.heap.getD (a - 1).toNat []).getD b.toNat 0, 0)) ∧ (doM 35 [a, b] s.heap).2 = s.heap) := ⟨hd, hd2⟩
  obtain ⟨A, c, rfl⟩ := hv.form
  obtain ⟨b0, o0, rfl, _, hl0, v0⟩ := hv.at 0 (by simp)
  obtain ⟨b1, o1, e1, _, hl1, v1⟩ := hv.at 1 (by simp)
  simp only [Option.some.injEq, Addr.mk.injEq, and_true] at e1
  obtain ⟨rfl, rfl⟩ := e1
  simp only [List.getElem_cons_zero, List.getElem_cons_succ, Nat.add_zero] at v0 v1
  rw [← hal.cell (by exact hl0)] at v0 v1
  have HB : Hid (∀ W, Calls Tryz.prog 169 #[.int .i64 35] W fun e w' => e = .returned (.bool false) ∧ w' = W) := fun W => specBin 35 W
  have HU : Hid (∀ W, Calls Tryz.prog 170 #[.int .i64 35] W fun e w' => e = .returned (.bool false) ∧ w' = W) := fun W => specUn 35 W
  obtain ⟨H, hc, hhp⟩ := HR.out.mac.hpForm
  have m1 := HR.out.mac.zcell.2.1
  rw [hhp] at m1
  have Hhp : Hid (V .hp = .slice H s.heap.length hc) := hhp
  clear M hal hd hd2 hv hhp
  go_enter Tryz.func112, Tryz.ntmps112
  go_wp2_with fail
  refine Calls.mono (HB.out _) ?_
  rintro e wx ⟨rfl, hwx⟩
  subst wx
  go_wp2_with fail
  refine Calls.mono (HU.out _) ?_
  rintro e wx ⟨rfl, hwx⟩
  subst wx
  obtain ⟨W, hW⟩ : ∃ W, W = w.alloc (.cells #[.int .i64 0, .int .i64 0] 166) := ⟨_, rfl⟩
  rw [← hW] at HR v0 v1 m1 ⊢
  clear hW
  have v0d : W.drew.cell? ⟨b0, o0, none⟩ = some (.int .i64 a) := v0
  have m1d : W.drew.cell? ⟨m, 1, none⟩ = some (.slice H s.heap.length hc) := m1
  by_cases hx : 1 ≤ a ∧ a ≤ s.heap.length
  · obtain ⟨i, rfl⟩ : ∃ i : Nat, a = (i : Int) + 1 := ⟨(a - 1).toNat, by omega⟩
    have hi : i < s.heap.length := by omega
    obtain ⟨bh, oh, ch, Aa, ca, e1, _, k0, _, harr⟩ := (HR.out.mac.below (Below.refl W.heap.size W).drew).arrD i hi
    rw [Hhp.out] at e1
    simp only [Value.slice.injEq, true_and] at e1
    obtain ⟨rfl, rfl⟩ := e1
    have HA : Hid (Calls Tryz.prog 173 #[.slice (some ⟨bh, oh, none⟩) s.heap.length hc, .int .i64 ((i : Int) + 1)] W.drew fun e w' => e = .returned (.tuple #[.slice Aa s.heap[i].length ca, .bool true]) ∧ w' = W.drew) := specArrIn bh oh _ hc i Aa _ ca W.drew hi hh k0
    have he : s.heap.getD ((i : Int) + 1 - 1).toNat [] = s.heap[i] := arr_at hi
    obtain ⟨l, Hl⟩ : ∃ l, Hid (l = s.heap[i]) := ⟨s.heap[i], rfl⟩
    rw [← Hl.out] at HA he harr
    obtain ⟨r0, f0⟩ := HR.out.row.2 0 (by simp)
    obtain ⟨r1, f1⟩ := HR.out.row.2 1 (by simp)
    have rz := HR.out.row.1
    simp only [List.getElem_cons_succ, List.getElem_cons_zero] at r0 r1
    by_cases hb : 0 ≤ b ∧ b < l.length
    · obtain ⟨j, rfl⟩ := Int.eq_ofNat_of_zero_le hb.1
      have hj : j < l.length := by omega
      have hjI : (j : Int) < (l.length : Int) := by omega
      have hjL : ¬ ((l.length : Int) ≤ (j : Int)) := by omega
      obtain ⟨ba, oa, rfl, _, q0, _⟩ := harr j hj
      have q0' : W.cell? ⟨ba, oa + j, none⟩ = some (.int .i64 l[j]) := q0
      have Hd3 : Hid ((doM 35 [(i : Int) + 1, (j : Int)] s.heap).1 = (l[j], 0)) := by
        rw [Hd.out.1, if_neg (by omega), he, if_neg (by omega), Int.toNat_natCast]
        simp only [List.getD_eq_getElem?_getD, List.getElem?_eq_getElem hj, Option.getD_some]
        exact trivial
      obtain ⟨N, HN⟩ : ∃ N : Int, Hid (N = l[j]) := ⟨l[j], rfl⟩
      rw [← HN.out] at q0' Hd3
      clear hb harr q0 k0 he
      obtain ⟨p0, p1, p2⟩ := HR.out.put (.int .i64 N) (.int .i64 0)
      have HP : Hid (MacY _ _ _ _ _ ∧ Below _ _ _ ∧ VRow _ _ _) := ⟨p0.below (Below.refl _ _).drew, p1.drew, p2.below (Below.refl _ _).drew⟩
      clear p0 p1 p2
      go_upto_region 10 with fail
      go_region_held3 (fun w' => w'.cell? ⟨m, 1, none⟩ = some (.slice (some ⟨bh, oh, none⟩) s.heap.length hc) ∧ w'.cell? ⟨b0, o0, none⟩ = some (.int .i64 ((i : Int) + 1)))
        (first | (exact ⟨m1d, v0d⟩))
        (first | (go_at_call 173; refine Calls.mono HA.out ?_; rintro e wA ⟨rfl, hwA⟩; subst wA))
      all_goals
        go_wp2_with fail
        refine bodyPost_ret (v := .agg #[.int .i64 N, .int .i64 0]) (by simp [results, Tryz.results112, go_sem, HP.out.2.2.at0, HP.out.2.2.at1]) rfl ?_
        refine ⟨by rw [Hd3.out], ?_, HP.out.2.1⟩
        rw [Hd.out.2]
        exact HP.out.1
    · have Hd3 : Hid ((doM 35 [(i : Int) + 1, b] s.heap).1 = (0, 12)) := by
        rw [Hd.out.1, if_neg (by omega), he, if_pos hb]; exact rfl
      clear harr k0 he
      by_cases hb0 : b < 0
      · clear hb
        obtain ⟨p0, p1, p2⟩ := HR.out.put (.int .i64 0) (.int .i64 12)
        have HP : Hid (MacY _ _ _ _ _ ∧ Below _ _ _ ∧ VRow _ _ _) := ⟨p0.below (Below.refl _ _).drew, p1.drew, p2.below (Below.refl _ _).drew⟩
        clear p0 p1 p2
        go_upto_region 10 with fail
        go_region_held3 (fun w' => w'.cell? ⟨m, 1, none⟩ = some (.slice (some ⟨bh, oh, none⟩) s.heap.length hc) ∧ w'.cell? ⟨b0, o0, none⟩ = some (.int .i64 ((i : Int) + 1)))
          (first | (exact ⟨m1d, v0d⟩))
          (first | (go_at_call 173; refine Calls.mono HA.out ?_; rintro e wA ⟨rfl, hwA⟩; subst wA))
        all_goals
          go_wp2_with fail
          refine bodyPost_ret (v := .agg #[.int .i64 0, .int .i64 12]) (by simp [results, Tryz.results112, go_sem, HP.out.2.2.at0, HP.out.2.2.at1]) rfl ?_
          refine ⟨by rw [Hd3.out], ?_, HP.out.2.1⟩
          rw [Hd.out.2]
          exact HP.out.1
      · have hbl : (l.length : Int) ≤ b := by omega
        have hbD : decide (b < 0) = false := by simp; omega
        clear hb
        obtain ⟨p0, p1, p2⟩ := HR.out.put (.int .i64 0) (.int .i64 12)
        have HP : Hid (MacY _ _ _ _ _ ∧ Below _ _ _ ∧ VRow _ _ _) := ⟨p0.below (Below.refl _ _).drew, p1.drew, p2.below (Below.refl _ _).drew⟩
        clear p0 p1 p2
        go_upto_region 10 with fail
        go_region_held3 (fun w' => w'.cell? ⟨m, 1, none⟩ = some (.slice (some ⟨bh, oh, none⟩) s.heap.length hc) ∧ w'.cell? ⟨b0, o0, none⟩ = some (.int .i64 ((i : Int) + 1)))
          (first | (exact ⟨m1d, v0d⟩))
          (first | (go_at_call 173; refine Calls.mono HA.out ?_; rintro e wA ⟨rfl, hwA⟩; subst wA))
        all_goals
          go_wp2_with fail
          refine bodyPost_ret (v := .agg #[.int .i64 0, .int .i64 12]) (by simp [results, Tryz.results112, go_sem, HP.out.2.2.at0, HP.out.2.2.at1]) rfl ?_
          refine ⟨by rw [Hd3.out], ?_, HP.out.2.1⟩
          rw [Hd.out.2]
          exact HP.out.1
  · have HA : Hid (Calls Tryz.prog 173 #[.slice H s.heap.length hc, .int .i64 a] W.drew fun e w' => e = .returned (.tuple #[.slice (some ⟨W.drew.heap.size, 0, none⟩) 0 0, .bool false]) ∧ Below W.drew.heap.size W.drew w') := specArrOut H _ hc a W.drew hx
    have Hd3 : Hid ((doM 35 [a, b] s.heap).1 = (0, 13)) := by rw [Hd.out.1, if_pos hx]; exact rfl
    clear hx
    go_upto_region 10 with fail
    go_region_held3 (fun w' => w'.cell? ⟨m, 1, none⟩ = some (.slice H s.heap.length hc) ∧ w'.cell? ⟨b0, o0, none⟩ = some (.int .i64 a))
      (first | (exact ⟨m1d, v0d⟩) | (exact HY1.out))
      (first | (go_at_call 173; refine Calls.mono HA.out ?_; rintro e wA ⟨rfl, hbA⟩
                have hbA' : Below W.heap.size W wA := (Below.refl W.heap.size W).drew.trans hbA
                have HY1 : Hid (wA.cell? ⟨m, 1, none⟩ = some (.slice H s.heap.length hc) ∧ wA.cell? ⟨b0, o0, none⟩ = some (.int .i64 a)) := ⟨by rw [hbA'.cell (by exact HR.out.mac.lt)]; exact m1, by rw [hbA'.cell (by exact Nat.lt_trans hl0 HR.out.row.1)]; exact v0⟩
                have HRA : Hid (MacR _ _ _ _ _ _ _ _ _ _) := HR.out.below hbA'
                obtain ⟨p0, p1, p2⟩ := HRA.out.put (.int .i64 0) (.int .i64 13)
                have HP : Hid (MacY _ _ _ _ _ ∧ Below _ _ _ ∧ VRow _ _ _) := ⟨p0, p1, p2⟩
                obtain ⟨r0, f0⟩ := HRA.out.row.2 0 (by simp)
                obtain ⟨r1, f1⟩ := HRA.out.row.2 1 (by simp)
                have rz := HRA.out.row.1
                simp only [List.getElem_cons_succ, List.getElem_cons_zero] at r0 r1
                clear p0 p1 p2))
    all_goals
      go_wp2_with fail
      refine bodyPost_ret (v := .agg #[.int .i64 0, .int .i64 13]) (by simp [results, Tryz.results112, go_sem, HP.out.2.2.at0, HP.out.2.2.at1]) rfl ?_
      refine ⟨by rw [Hd3.out], ?_, HP.out.2.1⟩
      rw [Hd.out.2]
      exact HP.out.1
end Go.Proofs.YtnknnncehcofnaaGreatDoor

namespace Go.Proofs.YtnknnncehcofnaaGreatDoor
open Go.RowKit

set_option maxRecDepth 100000 in
set_option maxHeartbeats 3200000 in
theorem specDoSet {pr : Pr} (B m : Nat) (s : StM) (a b c : Int) (U : Nat) (v : Value) (w : World) (hM : MacY pr B m w s) (hv : IRow U w v [a, b, c]) (hh : s.heap.length ≤ 1048576) :
    Calls Tryz.prog 112 #[.int .i64 36, v, .pointer (some ⟨m, 1, none⟩)] w fun e w' => DoT pr B m s 36 [a, b, c] w w' e := by
  obtain ⟨own, V, C, M⟩ := hM
  have HR : Hid (MacR pr B m w.heap.size (cutOwn w.heap.size own) V C s w (w.alloc (.cells #[.int .i64 0, .int .i64 0] 166))) := macR_new M _
  have hal : Below w.heap.size w (w.alloc (.cells #[.int .i64 0, .int .i64 0] 166)) := (Below.refl _ _).alloc (Nat.le_refl _) _
  have Hd : Hid (doM 36 [a, b, c] s.heap = if ¬ (1 ≤ a ∧ a ≤ s.heap.length) then ((0, 13), s.heap) else if ¬ (0 ≤ b ∧ b < (s.heap.getD (a - 1).toNat []).length) then ((0, 12), s.heap) else ((0, 0), s.heap.set (a - 1).toNat ((s.heap.getD (a - 1).toNat []).set b.toNat c))) := doM_set s.heap a b c
  obtain ⟨A, cv, rfl⟩ := hv.form
  obtain ⟨b0, o0, rfl, _, hl0, v0⟩ := hv.at 0 (by simp)
  obtain ⟨b1, o1, e1, _, hl1, v1⟩ := hv.at 1 (by simp)
  simp only [Option.some.injEq, Addr.mk.injEq, and_true] at e1
  obtain ⟨rfl, rfl⟩ := e1
  obtain ⟨b2, o2, e2, _, hl2, v2⟩ := hv.at 2 (by simp)
  simp only [Option.some.injEq, Addr.mk.injEq, and_true] at e2
  obtain ⟨rfl, rfl⟩ := e2
  simp only [List.getElem_cons_zero, List.getElem_cons_succ, Nat.add_zero] at v0 v1 v2
  rw [← hal.cell (by exact hl0)] at v0 v1 v2
  have HB : Hid (∀ W, Calls Tryz.prog 169 #[.int .i64 36] W fun e w' => e = .returned (.bool false) ∧ w' = W) := fun W => specBin 36 W
  have HU : Hid (∀ W, Calls Tryz.prog 170 #[.int .i64 36] W fun e w' => e = .returned (.bool false) ∧ w' = W) := fun W => specUn 36 W
  obtain ⟨H, hc, hhp⟩ := HR.out.mac.hpForm
  have m1 := HR.out.mac.zcell.2.1
  rw [hhp] at m1
  have Hhp : Hid (V .hp = .slice H s.heap.length hc) := hhp
  clear M hal hv hhp
  go_enter Tryz.func112, Tryz.ntmps112
  go_wp2_with fail
  refine Calls.mono (HB.out _) ?_
  rintro e wx ⟨rfl, hwx⟩
  subst wx
  go_wp2_with fail
  refine Calls.mono (HU.out _) ?_
  rintro e wx ⟨rfl, hwx⟩
  subst wx
  obtain ⟨W, hW⟩ : ∃ W, W = w.alloc (.cells #[.int .i64 0, .int .i64 0] 166) := ⟨_, rfl⟩
  rw [← hW] at HR v0 v1 v2 m1 ⊢
  clear hW
  have v0d : W.drew.cell? ⟨b0, o0, none⟩ = some (.int .i64 a) := v0
  have m1d : W.drew.cell? ⟨m, 1, none⟩ = some (.slice H s.heap.length hc) := m1
  by_cases hx : 1 ≤ a ∧ a ≤ s.heap.length
  · obtain ⟨i, rfl⟩ : ∃ i : Nat, a = (i : Int) + 1 := ⟨(a - 1).toNat, by omega⟩
    have hi : i < s.heap.length := by omega
    obtain ⟨bh, oh, ch, Aa, ca, e1, _, k0, hva, harr⟩ := (HR.out.mac.below (Below.refl W.heap.size W).drew).arrD i hi
    rw [Hhp.out] at e1
    simp only [Value.slice.injEq, true_and] at e1
    obtain ⟨rfl, rfl⟩ := e1
    have HA : Hid (Calls Tryz.prog 173 #[.slice (some ⟨bh, oh, none⟩) s.heap.length hc, .int .i64 ((i : Int) + 1)] W.drew fun e w' => e = .returned (.tuple #[.slice Aa s.heap[i].length ca, .bool true]) ∧ w' = W.drew) := specArrIn bh oh _ hc i Aa _ ca W.drew hi hh k0
    have he : s.heap.getD ((i : Int) + 1 - 1).toNat [] = s.heap[i] := arr_at hi
    obtain ⟨l, Hl⟩ : ∃ l, Hid (l = s.heap[i]) := ⟨s.heap[i], rfl⟩
    rw [← Hl.out] at HA he harr
    obtain ⟨r0, f0⟩ := HR.out.row.2 0 (by simp)
    obtain ⟨r1, f1⟩ := HR.out.row.2 1 (by simp)
    have rz := HR.out.row.1
    simp only [List.getElem_cons_succ, List.getElem_cons_zero] at r0 r1
    by_cases hb : 0 ≤ b ∧ b < l.length
    · obtain ⟨j, rfl⟩ := Int.eq_ofNat_of_zero_le hb.1
      have hj : j < l.length := by omega
      have hjI : (j : Int) < (l.length : Int) := by omega
      have hjL : ¬ ((l.length : Int) ≤ (j : Int)) := by omega
      obtain ⟨ba, oa, rfl, hba, q0, qf⟩ := harr j hj
      have q0' : W.cell? ⟨ba, oa + j, none⟩ = some (.int .i64 l[j]) := q0
      have qf' : W.frozen? ⟨ba, oa + j, none⟩ = false := qf
      have hba' : ba < W.heap.size := hba
      have Hd3 : Hid (doM 36 [(i : Int) + 1, (j : Int), c] s.heap = ((0, 0), s.heap.set i (s.heap[i].set j c))) := by
        rw [Hd.out, if_neg (by omega), he, if_neg (by omega), Int.toNat_natCast, ← Hl.out, show ((i : Int) + 1 - 1).toNat = i by omega]
        exact rfl
      obtain ⟨C2, M2, hb2⟩ := HR.out.mac.setArr i hi j (by rw [← Hl.out]; exact hj) c hva
      have hne : ba ≠ w.heap.size := by
        obtain ⟨b9, o9, n9, c9, e9, _, _, _, _, _, _, ho9⟩ := HR.out.mac.l.at (t := .arr i) hi (k := j) (by rw [HR.out.mac.k.arr i hi, ints_length, ← Hl.out]; exact hj)
        rw [hva] at e9
        simp only [Value.slice.injEq, Option.some.injEq, Addr.mk.injEq, and_true] at e9
        obtain ⟨⟨rfl, rfl⟩, _⟩ := e9
        rintro rfl
        rw [HR.out.no] at ho9
        cases ho9
      have HR2 : MacR pr B m w.heap.size (cutOwn w.heap.size own) V C2 _ w _ := ⟨M2, HR.out.no, HR.out.ne, HR.out.le, HR.out.bel.trans hb2, HR.out.row.set_far _ _ hne, HR.out.nf⟩
      obtain ⟨p0, p1, p2⟩ := HR2.put (.int .i64 0) (.int .i64 0)
      have HP : Hid (MacY _ _ _ _ _ ∧ Below _ _ _ ∧ VRow _ _ _) := ⟨(p0.below (Below.refl _ _).drew).below (Below.refl _ _).drew, p1.drew.drew, (p2.below (Below.refl _ _).drew).below (Below.refl _ _).drew⟩
      clear hb harr q0 k0 he p0 p1 p2 HR2 M2 hb2 qf hba hva
      go_upto_region 10 with fail
      go_region_held3 (fun w' => w'.cell? ⟨m, 1, none⟩ = some (.slice (some ⟨bh, oh, none⟩) s.heap.length hc) ∧ w'.cell? ⟨b0, o0, none⟩ = some (.int .i64 ((i : Int) + 1)))
        (first | (exact ⟨m1d, v0d⟩))
        (first | (go_at_call 173; refine Calls.mono HA.out ?_; rintro e wA ⟨rfl, hwA⟩; subst wA))
      all_goals
        go_wp2_with fail
        go_region
        all_goals
          go_wp2_with fail
          refine bodyPost_ret (v := .agg #[.int .i64 0, .int .i64 0]) (by simp [results, Tryz.results112, go_sem, HP.out.2.2.at0, HP.out.2.2.at1]) rfl ?_
          refine ⟨by rw [Hd3.out], ?_, HP.out.2.1⟩
          rw [Hd3.out]
          exact HP.out.1
    · have Hd3 : Hid (doM 36 [(i : Int) + 1, b, c] s.heap = ((0, 12), s.heap)) := by
        rw [Hd.out, if_neg (by omega), he, if_pos hb]; exact rfl
      clear harr k0 he
      by_cases hb0 : b < 0
      · clear hb
        obtain ⟨p0, p1, p2⟩ := HR.out.put (.int .i64 0) (.int .i64 12)
        have HP : Hid (MacY _ _ _ _ _ ∧ Below _ _ _ ∧ VRow _ _ _) := ⟨p0.below (Below.refl _ _).drew, p1.drew, p2.below (Below.refl _ _).drew⟩
        clear p0 p1 p2
        go_upto_region 10 with fail
        go_region_held3 (fun w' => w'.cell? ⟨m, 1, none⟩ = some (.slice (some ⟨bh, oh, none⟩) s.heap.length hc) ∧ w'.cell? ⟨b0, o0, none⟩ = some (.int .i64 ((i : Int) + 1)))
          (first | (exact ⟨m1d, v0d⟩))
          (first | (go_at_call 173; refine Calls.mono HA.out ?_; rintro e wA ⟨rfl, hwA⟩; subst wA))
        all_goals
          go_wp2_with fail
          refine bodyPost_ret (v := .agg #[.int .i64 0, .int .i64 12]) (by simp [results, Tryz.results112, go_sem, HP.out.2.2.at0, HP.out.2.2.at1]) rfl ?_
          refine ⟨by rw [Hd3.out], ?_, HP.out.2.1⟩
          rw [Hd3.out]
          exact HP.out.1
      · have hbl : (l.length : Int) ≤ b := by omega
        have hbD : decide (b < 0) = false := by simp; omega
        clear hb
        obtain ⟨p0, p1, p2⟩ := HR.out.put (.int .i64 0) (.int .i64 12)
        have HP : Hid (MacY _ _ _ _ _ ∧ Below _ _ _ ∧ VRow _ _ _) := ⟨p0.below (Below.refl _ _).drew, p1.drew, p2.below (Below.refl _ _).drew⟩
        clear p0 p1 p2
        go_upto_region 10 with fail
        go_region_held3 (fun w' => w'.cell? ⟨m, 1, none⟩ = some (.slice (some ⟨bh, oh, none⟩) s.heap.length hc) ∧ w'.cell? ⟨b0, o0, none⟩ = some (.int .i64 ((i : Int) + 1)))
          (first | (exact ⟨m1d, v0d⟩))
          (first | (go_at_call 173; refine Calls.mono HA.out ?_; rintro e wA ⟨rfl, hwA⟩; subst wA))
        all_goals
          go_wp2_with fail
          refine bodyPost_ret (v := .agg #[.int .i64 0, .int .i64 12]) (by simp [results, Tryz.results112, go_sem, HP.out.2.2.at0, HP.out.2.2.at1]) rfl ?_
          refine ⟨by rw [Hd3.out], ?_, HP.out.2.1⟩
          rw [Hd3.out]
          exact HP.out.1
  · have HA : Hid (Calls Tryz.prog 173 #[.slice H s.heap.length hc, .int .i64 a] W.drew fun e w' => e = .returned (.tuple #[.slice (some ⟨W.drew.heap.size, 0, none⟩) 0 0, .bool false]) ∧ Below W.drew.heap.size W.drew w') := specArrOut H _ hc a W.drew hx
    have Hd3 : Hid (doM 36 [a, b, c] s.heap = ((0, 13), s.heap)) := by rw [Hd.out, if_pos hx]; exact rfl
    clear hx
    go_upto_region 10 with fail
    go_region_held3 (fun w' => w'.cell? ⟨m, 1, none⟩ = some (.slice H s.heap.length hc) ∧ w'.cell? ⟨b0, o0, none⟩ = some (.int .i64 a))
      (first | (exact ⟨m1d, v0d⟩) | (exact HY1.out))
      (first | (go_at_call 173; refine Calls.mono HA.out ?_; rintro e wA ⟨rfl, hbA⟩
                have hbA' : Below W.heap.size W wA := (Below.refl W.heap.size W).drew.trans hbA
                have HY1 : Hid (wA.cell? ⟨m, 1, none⟩ = some (.slice H s.heap.length hc) ∧ wA.cell? ⟨b0, o0, none⟩ = some (.int .i64 a)) := ⟨by rw [hbA'.cell (by exact HR.out.mac.lt)]; exact m1, by rw [hbA'.cell (by exact Nat.lt_trans hl0 HR.out.row.1)]; exact v0⟩
                have HRA : Hid (MacR _ _ _ _ _ _ _ _ _ _) := HR.out.below hbA'
                obtain ⟨p0, p1, p2⟩ := HRA.out.put (.int .i64 0) (.int .i64 13)
                have HP : Hid (MacY _ _ _ _ _ ∧ Below _ _ _ ∧ VRow _ _ _) := ⟨p0, p1, p2⟩
                obtain ⟨r0, f0⟩ := HRA.out.row.2 0 (by simp)
                obtain ⟨r1, f1⟩ := HRA.out.row.2 1 (by simp)
                have rz := HRA.out.row.1
                simp only [List.getElem_cons_succ, List.getElem_cons_zero] at r0 r1
                clear p0 p1 p2))
    all_goals
      go_wp2_with fail
      refine bodyPost_ret (v := .agg #[.int .i64 0, .int .i64 13]) (by simp [results, Tryz.results112, go_sem, HP.out.2.2.at0, HP.out.2.2.at1]) rfl ?_
      refine ⟨by rw [Hd3.out], ?_, HP.out.2.1⟩
      rw [Hd3.out]
      exact HP.out.1
end Go.Proofs.YtnknnncehcofnaaGreatDoor

namespace Go.Proofs.YtnknnncehcofnaaGreatDoor
open Go.RowKit

set_option maxRecDepth 100000 in
set_option maxHeartbeats 3200000 in
theorem specDoNew {pr : Pr} (B m : Nat) (s : StM) (a : Int) (U : Nat) (v : Value) (w : World) (hM : MacY pr B m w s) (hv : IRow U w v [a]) (hs : s.heap.length ≤ 1048575) :
    Calls Tryz.prog 112 #[.int .i64 34, v, .pointer (some ⟨m, 1, none⟩)] w fun e w' => DoT pr B m s 34 [a] w w' e := by
  unfold DoT
  obtain ⟨x, hx⟩ : ∃ x, x = doM 34 [a] s.heap := ⟨_, rfl⟩
  rw [← hx]
  rw [doM_new] at hx
  obtain ⟨own, V, C, M0⟩ := hM
  have hnf := M0.unfixed w.heap.size (Nat.le_refl _)
  have hB : B ≤ w.heap.size := Nat.le_of_lt (Nat.lt_of_le_of_lt M0.base M0.lt)
  obtain ⟨W, hW⟩ : ∃ W, W = w.alloc (.cells #[.int .i64 0, .int .i64 0] 166) := ⟨_, rfl⟩
  have hal : Below w.heap.size w W := by rw [hW]; exact (Below.refl _ _).alloc (Nat.le_refl _) _
  have Hal : Hid (Below B w W) := hal.mono hB
  have M := M0.cutOwn.below hal
  have X := vrow_new w #[.int .i64 0, .int .i64 0] 166
  rw [← hW] at X
  have x0 := X.1
  obtain ⟨x1, x2⟩ := X.2 0 (by simp)
  obtain ⟨x3, x4⟩ := X.2 1 (by simp)
  simp at x1 x3
  obtain ⟨A, c, hvh⟩ := M.hpForm
  have c2 := M0.zcell.2.1
  rw [hvh] at c2
  have hm := M0.lt
  have hno : ∀ j, cutOwn w.heap.size own w.heap.size j = .no := fun j => by show (if w.heap.size < w.heap.size then _ else _) = _; rw [if_neg (by omega)]
  have HM : Hid (Mac B m 0 pr (cutOwn w.heap.size own) W V C s) := M
  obtain ⟨Av, cv, rfl⟩ := hv.form
  obtain ⟨b0, o0, rfl, _, hl0, v0⟩ := hv.at 0 (by simp)
  simp only [List.getElem_cons_zero, Nat.add_zero] at v0
  have HBn : Hid (∀ W, Calls Tryz.prog 169 #[.int .i64 34] W fun e w' => e = .returned (.bool false) ∧ w' = W) := fun W => specBin 34 W
  have HUn : Hid (∀ W, Calls Tryz.prog 170 #[.int .i64 34] W fun e w' => e = .returned (.bool false) ∧ w' = W) := fun W => specUn 34 W
  have v0b : ∀ o : Obj, (w.alloc o).cell? ⟨b0, o0, none⟩ = some (.int .i64 a) := fun o => by rw [World.cell?_alloc_past _ _ _ (by exact hl0)]; exact v0
  have c2z : ∀ o : Obj, (w.alloc o).cell? ⟨m, 1, none⟩ = some (.slice A s.heap.length c) := fun o => by rw [World.cell?_alloc_past _ _ _ (by exact hm)]; exact c2
  clear hv
  by_cases h1 : s.heap.length < 30 ∧ 0 ≤ a ∧ a ≤ 50
  · rw [if_pos h1] at hx
    subst hx
    obtain ⟨h30', h2, h3⟩ := h1
    obtain ⟨k, rfl⟩ := Int.eq_ofNat_of_zero_le h2
    obtain ⟨i0, hii, hz0, hz1, hz2⟩ := info_parts Tryz.info64
    have hmk := fun (W : World) => run_makeSlice (P := Tryz.prog) W 28 2 i0 _ Tryz.underlying28 hii hz0 .i64 .i64 k k (by omega) (by omega) (by rw [hz1]; simp; omega) (by rw [hz2]; omega) (by omega)
    simp only [hz1, Int.toNat_natCast, Nat.mul_one] at hmk
    obtain ⟨A', c', hv', b1, off1, cap1, w1, hrun, ⟨⟨u, d0⟩, d1, d2⟩, own2, V2, C2, M2, hb2, hfree⟩ := (M.below (Below.refl _ _).drew).arrRun (by omega) k (madeCells #[Value.int .i64 0] k) (made_ints k) 2 28 38
    rw [hvh] at hv'
    simp only [Value.slice.injEq] at hv'
    obtain ⟨rfl, -, rfl⟩ := hv'
    rw [Nat.zero_add] at d0 d1 M2 hb2
    obtain ⟨f1, f2⟩ := hfree w.heap.size X.1 hno
    have eW : W.heap.size = w.heap.size + 1 := by rw [hW]; simp
    have hrun' : (Builtin.append_ #[38, 38] 38 #[.slice A s.heap.length c, .slice (some ⟨W.heap.size + 1, 0, none⟩) 1 1]).run Tryz.prog (((W.alloc (.cells (madeCells #[Value.int .i64 0] k) 2)).alloc (.cells #[.slice (some ⟨W.heap.size, 0, none⟩) k k] 28)).drew) = .ok (.slice (some ⟨b1, off1, none⟩) (s.heap.length + 1) cap1) w1 := hrun
    clear hrun
    rw [eW, hW] at hrun'
    replace f2 : ∀ j, w1.cell? ⟨w.heap.size, j, none⟩ = W.cell? ⟨w.heap.size, j, none⟩ ∧ w1.frozen? ⟨w.heap.size, j, none⟩ = W.frozen? ⟨w.heap.size, j, none⟩ := f2
    replace hb2 := (Below.refl B W).drew.trans hb2
    obtain ⟨y1, y2⟩ := f2 0
    obtain ⟨y3, y4⟩ := f2 1
    rw [x1] at y1
    rw [x2] at y2
    rw [x3] at y3
    rw [x4] at y4
    have hz : w.heap.size < w1.heap.size := Nat.lt_of_lt_of_le x0 (by have := hb2.size; simpa using this)
    have H4 : Hid (MacY pr B m (((w1.setCell ⟨m, 1, none⟩ (.slice (some ⟨b1, off1, none⟩) (s.heap.length + 1) cap1)).setCell ⟨w.heap.size, 0, none⟩ (.int .i64 ((s.heap.length : Int) + 1))).setCell ⟨w.heap.size, 1, none⟩ (.int .i64 0)) { s with heap := s.heap ++ [List.replicate k 0] } ∧ Below B w (((w1.setCell ⟨m, 1, none⟩ (.slice (some ⟨b1, off1, none⟩) (s.heap.length + 1) cap1)).setCell ⟨w.heap.size, 0, none⟩ (.int .i64 ((s.heap.length : Int) + 1))).setCell ⟨w.heap.size, 1, none⟩ (.int .i64 0))) :=
      ⟨⟨_, _, _, (M2.setFree w.heap.size 0 _ f1 (by omega) hB hnf).setFree w.heap.size 1 _ f1 (by omega) hB hnf⟩, ((Hal.out.trans hb2).setCell (by exact hB) _).setCell (by exact hB) _⟩
    have h30 : (s.heap.length : Int) < 30 := by omega
    clear HM M M0 X hal hno x0 x1 x2 x3 x4 hvh M2 hb2 hfree f1 f2 hW eW
    simp only [Int.toNat_natCast]
    obtain ⟨n, hn⟩ : ∃ n, n = s.heap.length := ⟨_, rfl⟩
    rw [← hn] at c2 c2z hs H4 hrun' h30 ⊢
    clear hn
    go_enter Tryz.func112, Tryz.ntmps112
    have c2b : ∀ o o' : Obj, ((w.alloc o).alloc o').cell? ⟨m, 1, none⟩ = some (.slice A n c) := fun o o' => by
      rw [World.cell?_alloc_past _ _ _ (by simp; omega), World.cell?_alloc_past _ _ _ (by exact hm)]; exact c2
    have c2a : ∀ o o' o'' : Obj, (((w.alloc o).alloc o').alloc o'').cell? ⟨m, 1, none⟩ = some (.slice A n c) := fun o o' o'' => by
      rw [World.cell?_alloc_past _ _ _ (by simp; omega)]; exact c2b o o'
    go_wp2_with fail
    refine Calls.mono (HBn.out _) ?_
    rintro e wx ⟨rfl, hwx⟩
    subst wx
    go_wp2_with fail
    refine Calls.mono (HUn.out _) ?_
    rintro e wx ⟨rfl, hwx⟩
    subst wx
    go_wp2_with fail
    go_region_law (refine step_append_run rfl (.tmp 52) (.tmp 57) 38 rfl (.slice A n c) (.slice (some ⟨w.heap.size + 1 + 1, 0, none⟩) 1 1) (by simp [Act.eval]) (by simp [Act.eval]) _ _ hrun' ?_)
    all_goals
      go_wp2_with fail
      exact bodyPost_ret (v := .agg #[.int .i64 ((n : Int) + 1), .int .i64 0]) (by simp [results, Tryz.results112, go_sem, y1, y3]) rfl ⟨rfl, H4.out.1, H4.out.2⟩
  · rw [if_neg h1] at hx
    subst hx
    have hal2 : Below w.heap.size w (w.alloc (.cells #[.int .i64 0, .int .i64 14] 166)) := (Below.refl _ _).alloc (Nat.le_refl _) _
    have H4 : Hid (MacY pr B m (w.alloc (.cells #[.int .i64 0, .int .i64 14] 166)) s ∧ Below B w (w.alloc (.cells #[.int .i64 0, .int .i64 14] 166))) := ⟨⟨_, _, _, M0.below hal2⟩, hal2.mono hB⟩
    clear HM M M0 X hal hno x0 x1 x2 x3 x4 hvh hal2 hW
    obtain ⟨n, hn⟩ : ∃ n, n = s.heap.length := ⟨_, rfl⟩
    rw [← hn] at c2 c2z hs h1
    clear hn
    by_cases ha : 30 ≤ n
    · have ha' : (30 : Int) ≤ n := by omega
      go_enter Tryz.func112, Tryz.ntmps112
      go_wp2_with fail
      refine Calls.mono (HBn.out _) ?_
      rintro e wx ⟨rfl, hwx⟩
      subst wx
      go_wp2_with fail
      refine Calls.mono (HUn.out _) ?_
      rintro e wx ⟨rfl, hwx⟩
      subst wx
      go_wp2_with fail
      exact bodyPost_ret (v := .agg #[.int .i64 0, .int .i64 14]) (by simp [results, Tryz.results112, go_sem]) rfl ⟨rfl, H4.out.1, H4.out.2⟩
    · have ha' : (n : Int) < 30 := by omega
      by_cases hb : 0 ≤ a
      · have hc : 50 < a := by omega
        go_enter Tryz.func112, Tryz.ntmps112
        go_wp2_with fail
        refine Calls.mono (HBn.out _) ?_
        rintro e wx ⟨rfl, hwx⟩
        subst wx
        go_wp2_with fail
        refine Calls.mono (HUn.out _) ?_
        rintro e wx ⟨rfl, hwx⟩
        subst wx
        go_wp2_with fail
        exact bodyPost_ret (v := .agg #[.int .i64 0, .int .i64 14]) (by simp [results, Tryz.results112, go_sem]) rfl ⟨rfl, H4.out.1, H4.out.2⟩
      · go_enter Tryz.func112, Tryz.ntmps112
        go_wp2_with fail
        refine Calls.mono (HBn.out _) ?_
        rintro e wx ⟨rfl, hwx⟩
        subst wx
        go_wp2_with fail
        refine Calls.mono (HUn.out _) ?_
        rintro e wx ⟨rfl, hwx⟩
        subst wx
        go_wp2_with fail
        exact bodyPost_ret (v := .agg #[.int .i64 0, .int .i64 14]) (by simp [results, Tryz.results112, go_sem]) rfl ⟨rfl, H4.out.1, H4.out.2⟩
end Go.Proofs.YtnknnncehcofnaaGreatDoor
