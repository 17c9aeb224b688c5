/- impl.heightBehind, impl.placesBehind, impl.sizesRight. -/
import Derived.Test.YtijgonjnmibifaaGreatDoorHeightI
import Derived.Test.YtijgonjnmibifaaGreatDoorIRow
namespace Go.Proofs.YtijgonjnmibifaaGreatDoor
open Go.RowKit

/-- what an instruction leaves, and the fault, as the program tells both -/
def behindL (p : List FnM) (hh : Int) (i : Int × Int) : Int := if badAt p hh i then 0 else leaves p hh i
def behindC (p : List FnM) (hh : Int) (i : Int × Int) : Int := if badAt p hh i then 5 else 0

theorem leaves_eqI (p : List FnM) (h op a : Int) : wrap64 (wrap64 (h - takesM p op a) + (opRow op).2.2.2) = leaves p h (op, a) := rfl

set_option maxHeartbeats 800000 in
theorem implBehind {B : Nat} (v : Value) (p : List FnM) (op a hh : Int) (w : World) (ht : Tab w) (hr : FnRow B w v p) :
    Calls Tryz.prog 96 #[.agg #[v], .agg #[.int .i64 op, .int .i64 a], .int .i64 hh] w fun e w' => e = .returned (.tuple #[.int .i64 (behindL p hh (op, a)), .int .i64 (behindC p hh (op, a))]) ∧ Below w.heap.size w w' := by
  have Hr : Hid (FnRow B w v p) := hr
  have Ht : Hid (Tab w) := ht
  obtain ⟨A, cap, rfl⟩ := hr.form
  clear hr ht
  obtain ⟨x0, x1, x2⟩ := boxes_new w #[.slice A p.length cap] #[.int .i64 op, .int .i64 a] 34 146
  have X0 : Hid (Box _ _ _) := x0
  have X1 : Hid (Box _ _ _) := x1
  have X2 : Hid (Below _ _ _) := x2
  clear x0 x1 x2
  go_enter Tryz.func96, Tryz.ntmps96
  go_wp2_with fail
  refine (implTakes _ p op a _ (Ht.out.below X2.out) (Hr.out.below X2.out)).mono ?_
  rintro e w1 ⟨rfl, hb1⟩
  have Hb1 : Hid (Below w.heap.size w w1) := X2.out.trans (hb1.mono X2.out.size)
  have HB1 : Hid (Box w1 (w.heap.size + 1) #[.int .i64 op, .int .i64 a]) := X1.out.below hb1
  have Ht1 : Hid (Tab w1) := Ht.out.below Hb1.out
  have d0 := HB1.out.at0
  have d1 := HB1.out.at1
  have dz := HB1.out.1
  clear hb1 X0 X1 X2 Hr Ht
  obtain ⟨tk, Htk⟩ : ∃ tk, Hid (tk = takesM p op a) := ⟨_, rfl⟩
  rw [← Htk.out]
  by_cases h1 : hh < tk
  · have HL : Hid (behindL p hh (op, a) = 0 ∧ behindC p hh (op, a) = 5) := by
      rw [Htk.out] at h1
      have hb : badAt p hh (op, a) := .inl h1
      exact ⟨if_pos hb, if_pos hb⟩
    go_wp2_with fail
    exact bodyPost_ret (v := .tuple #[.int .i64 0, .int .i64 5]) (by simp [results, Tryz.results96, go_sem]) rfl ⟨by rw [HL.out.1, HL.out.2], Hb1.out⟩
  · go_wp2_with fail
    refine (implPuts op a _ Ht1.out).mono ?_
    rintro e w2 ⟨rfl, hb2⟩
    have Hb2 : Hid (Below w.heap.size w w2) := Hb1.out.trans (hb2.mono Hb1.out.size)
    clear hb2 d0 d1 dz
    obtain ⟨nx, Hnx⟩ : ∃ nx, Hid (nx = leaves p hh (op, a)) := ⟨_, rfl⟩
    have hnx := leaves_eqI p hh op a
    rw [← Htk.out, ← Hnx.out] at hnx
    by_cases h2 : 8 < nx
    · have HL : Hid (behindL p hh (op, a) = 0 ∧ behindC p hh (op, a) = 5) := by
        rw [Hnx.out] at h2
        have hb : badAt p hh (op, a) := .inr h2
        exact ⟨if_pos hb, if_pos hb⟩
      go_wp2_with fail
      exact bodyPost_ret (v := .tuple #[.int .i64 0, .int .i64 5]) (by simp [results, Tryz.results96, go_sem]) rfl ⟨by rw [HL.out.1, HL.out.2], Hb2.out⟩
    · have HL : Hid (behindL p hh (op, a) = nx ∧ behindC p hh (op, a) = 0) := by
        rw [Htk.out] at h1
        rw [Hnx.out] at h2
        have hb : ¬ badAt p hh (op, a) := not_or.2 ⟨Int.not_lt.2 (by omega), h2⟩
        exact ⟨(if_neg hb).trans Hnx.out.symm, if_neg hb⟩
      go_wp2_with fail
      exact bodyPost_ret (v := .tuple #[.int .i64 nx, .int .i64 0]) (by simp [results, Tryz.results96, go_sem, hnx]) rfl ⟨by rw [HL.out.1, HL.out.2], Hb2.out⟩

theorem irow_lit (w : World) (zs : List Int) (hn : zs.length ≤ 9223372036854775807) (B cap : Nat) (hB : B ≤ w.heap.size) : IRow B (w.alloc (.cells (ints zs).toArray 2)) (.slice (some ⟨w.heap.size, 0, none⟩) zs.length cap) zs := by
  have y := vrow_new w (ints zs).toArray 2
  rw [List.toList_toArray] at y
  exact IRow.of_vrow cap y hB hn

set_option maxHeartbeats 800000 in
theorem implPlaces (k : Nat) (op a : Int) (w : World) (hk : k ≤ 1048576) :
    Calls Tryz.prog 97 #[.agg #[.int .i64 op, .int .i64 a], .int .i64 k] w fun e w' => ∃ v, e = .returned v ∧ IRow w.heap.size w' v (goesTo k (op, a)) ∧ Below w.heap.size w w' := by
  have Hb : Hid (∀ o : Obj, Below w.heap.size w (w.alloc o)) := fun o => (Below.refl _ _).alloc (Nat.le_refl _) _
  have Hb2 : Hid (∀ o o' : Obj, Below w.heap.size w ((w.alloc o).alloc o')) := fun o o' => ((Below.refl _ _).alloc (Nat.le_refl _) _).alloc (by simp) _
  have HI : Hid (∀ o zs, zs.length ≤ 9223372036854775807 → ∀ cap, IRow w.heap.size ((w.alloc o).alloc (.cells (ints zs).toArray 2)) (.slice (some ⟨w.heap.size + 1, 0, none⟩) zs.length cap) zs) := fun o zs hz cap => by
    have := irow_lit (w.alloc o) zs hz w.heap.size cap (by simp)
    rwa [show (w.alloc o).heap.size = w.heap.size + 1 by simp] at this
  by_cases h33 : op = 33
  · subst h33
    go_enter Tryz.func97, Tryz.ntmps97
    go_wp2_with fail
    go_ret
    exact ⟨_, rfl, ⟨none, 0, rfl, by simp [goesTo], fun i hi => absurd hi (by simp [goesTo])⟩, Hb.out _⟩
  · have n33 : (op == 33) = false := by simpa using h33
    by_cases h30 : op = 30
    · subst h30
      clear n33 h33
      go_enter Tryz.func97, Tryz.ntmps97
      go_wp2_with fail
      go_ret
      exact ⟨_, rfl, HI.out _ [a] (by simp) 1, Hb2.out _ _⟩
    · have n30 : (op == 30) = false := by simpa using h30
      by_cases h31 : op = 31
      · subst h31
        clear n33 h33 n30 h30
        go_enter Tryz.func97, Tryz.ntmps97
        go_wp2_with fail
        go_ret
        exact ⟨_, rfl, HI.out _ [(k : Int) + 1, a] (by simp) 2, Hb2.out _ _⟩
      · have n31 : (op == 31) = false := by simpa using h31
        have HG : Hid (goesTo k (op, a) = [(k : Int) + 1]) := by
          show goesTo k (op, a) = _
          simp [goesTo, h33, h30, h31]
        go_enter Tryz.func97, Tryz.ntmps97
        go_wp2_with fail
        go_ret
        exact ⟨_, rfl, by rw [HG.out]; exact HI.out _ [(k : Int) + 1] (by simp) 1, Hb2.out _ _⟩

set_option maxHeartbeats 1600000 in
theorem implSizes {B : Nat} (x y : Int) (v : Value) (c : List (Int × Int)) (w : World) (hr : InsRow B w v c) :
    Calls Tryz.prog 139 #[.agg #[.int .i64 x, .int .i64 y, v]] w fun e w' => e = .returned (.bool (formOk ⟨x, y, c⟩)) ∧ Below w.heap.size w w' := by
  have Hb : Hid (∀ o : Obj, Below w.heap.size w (w.alloc o)) := fun o => (Below.refl _ _).alloc (Nat.le_refl _) _
  obtain ⟨A, cap, rfl, hl, _⟩ := hr
  obtain ⟨n, Hn⟩ : ∃ n, Hid (n = c.length) := ⟨_, rfl⟩
  rw [← Hn.out] at hl ⊢
  by_cases h1 : 0 ≤ x
  · by_cases h2 : x ≤ 4
    · by_cases h3 : x ≤ y
      · by_cases h4 : y ≤ 8
        · by_cases h5 : 1 ≤ n
          · have HT : Hid (formOk ⟨x, y, c⟩ = decide (n ≤ 60)) := by
              show formOk ⟨x, y, c⟩ = _
              rw [Hn.out] at h5
              rw [Hn.out]
              simp [formOk, h1, h2, h3, h4, h5]
            have h5' : (1 : Int) ≤ n := by omega
            by_cases h6 : n ≤ 60
            · have h6' : (n : Int) ≤ 60 := by omega
              go_enter Tryz.func139, Tryz.ntmps139
              go_wp2_with fail
              go_ret
              exact ⟨by rw [HT.out]; simp [h6], Hb.out _⟩
            · have h6' : decide ((n : Int) ≤ 60) = false := by simp; omega
              go_enter Tryz.func139, Tryz.ntmps139
              go_wp2_with fail
              go_ret
              exact ⟨by rw [HT.out]; simp [h6], Hb.out _⟩
          · have h5' : decide ((1 : Int) ≤ n) = false := by simp; omega
            have HT : Hid (formOk ⟨x, y, c⟩ = false) := by
              show formOk ⟨x, y, c⟩ = _
              rw [Hn.out] at h5
              simp only [formOk, decide_eq_false_iff_not]
              omega
            go_enter Tryz.func139, Tryz.ntmps139
            go_wp2_with fail
            go_ret
            exact ⟨by rw [HT.out]; rfl, Hb.out _⟩
        · have h4' : decide (y ≤ 8) = false := by simp; omega
          have HT : Hid (formOk ⟨x, y, c⟩ = false) := by
            show formOk ⟨x, y, c⟩ = _
            simp only [formOk, decide_eq_false_iff_not]
            omega
          go_enter Tryz.func139, Tryz.ntmps139
          go_wp2_with fail
          go_ret
          exact ⟨by rw [HT.out]; rfl, Hb.out _⟩
      · have h3' : decide (x ≤ y) = false := by simp; omega
        have HT : Hid (formOk ⟨x, y, c⟩ = false) := by
          show formOk ⟨x, y, c⟩ = _
          simp only [formOk, decide_eq_false_iff_not]
          omega
        go_enter Tryz.func139, Tryz.ntmps139
        go_wp2_with fail
        go_ret
        exact ⟨by rw [HT.out]; rfl, Hb.out _⟩
    · have h2' : decide (x ≤ 4) = false := by simp; omega
      have HT : Hid (formOk ⟨x, y, c⟩ = false) := by
        show formOk ⟨x, y, c⟩ = _
        simp only [formOk, decide_eq_false_iff_not]
        omega
      go_enter Tryz.func139, Tryz.ntmps139
      go_wp2_with fail
      go_ret
      exact ⟨by rw [HT.out]; rfl, Hb.out _⟩
  · have h1' : decide (0 ≤ x) = false := by simp; omega
    have HT : Hid (formOk ⟨x, y, c⟩ = false) := by
      show formOk ⟨x, y, c⟩ = _
      simp only [formOk, decide_eq_false_iff_not]
      omega
    go_enter Tryz.func139, Tryz.ntmps139
    go_wp2_with fail
    go_ret
    exact ⟨by rw [HT.out]; rfl, Hb.out _⟩
end Go.Proofs.YtijgonjnmibifaaGreatDoor
