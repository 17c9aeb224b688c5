/- impl.readAndWritten; spec.l08Reads, spec.l08Writes, spec.l08Next: what an instruction reads and writes. -/
import Derived.Test.YtljhoplcfoiiiaaDoorSetW
import Derived.Test.YtljhoplcfoiiiaaDoorLiveP
import Derived.Test.YtljhoplcfoiiiaaDoorImplP
namespace Go.Proofs.YtljhoplcfoiiiaaDoor
open Go.RowKit

def rdOf (op a : Int) (lo hi : Nat) : Nat := if op = 2 then 2 ^ a.toNat else mask lo hi
def wrOf (op a : Int) (lo hi up : Nat) : Nat := if op = 3 then 2 ^ a.toNat else mask lo hi ||| mask lo up
def wsOf (op a : Int) (lo up : Nat) : Nat := if op = 3 then 2 ^ a.toNat else mask lo up

set_option maxRecDepth 100000 in
set_option maxHeartbeats 1600000 in
theorem implRW {B : Nat} (v : Value) (p : List FnM) (op a : Int) (L h t u hi lo up : Nat) (w : World) (ht : Tab w) (hr : FnRow B w v p) (htk : takesM p op a = t) (hpu : (opRow op).2.2.2 = u)
    (e1 : L + h = hi) (e2 : lo + t = hi) (e3 : lo + u = up) (h1 : hi ≤ 16) (h2 : up ≤ 16) (ha : op = 2 ∨ op = 3 → 0 ≤ a ∧ a < 16) :
    Calls Tryd.prog 47 #[.agg #[v], .int .i64 (L : Int), .agg #[.int .i64 op, .int .i64 a], .int .i64 (h : Int)] w fun e w' => e = .returned (.tuple #[.int .i64 ((rdOf op a lo hi : Nat) : Int), .int .i64 ((wrOf op a lo hi up : Nat) : Int)]) ∧ Below w.heap.size w w' := by
  have Hr : Hid (FnRow B w v p) := hr
  have Ht : Hid (Tab w) := ht
  have Htk : Hid (takesM p op a = t) := htk
  have Hpu : Hid ((opRow op).2.2.2 = u) := hpu
  have q1 : (L : Int) + h = hi := by omega
  have q2 : (hi : Int) - t = lo := by omega
  have q3 : (lo : Int) + u = up := by omega
  have hlh : lo ≤ hi := by omega
  have hlu : lo ≤ up := by omega
  have HS1 : Hid (∀ w', Calls Tryd.prog 69 #[.int .i64 (lo : Int), .int .i64 (hi : Int)] w' fun e w'' => e = .returned (.int .i64 ((mask lo hi : Nat) : Int)) ∧ w'' = w'.drew) := fun w' => implSet lo hi hlh h1 w'
  have HS2 : Hid (∀ w', Calls Tryd.prog 69 #[.int .i64 (lo : Int), .int .i64 (up : Int)] w' fun e w'' => e = .returned (.int .i64 ((mask lo up : Nat) : Int)) ∧ w'' = w'.drew) := fun w' => implSet lo up hlu h2 w'
  have o1 := or_i64 (mask lo hi) (mask lo up) (mask_small h1) (mask_small h2)
  have HR1 : Hid (rdOf op a lo hi = if op = 2 then 2 ^ a.toNat else mask lo hi) := rfl
  have HR2 : Hid (wrOf op a lo hi up = if op = 3 then 2 ^ a.toNat else mask lo hi ||| mask lo up) := rfl
  obtain ⟨m1, Hm1⟩ : ∃ m : Nat, Hid (m = mask lo hi) := ⟨_, rfl⟩
  obtain ⟨m2, Hm2⟩ : ∃ m : Nat, Hid (m = mask lo up) := ⟨_, rfl⟩
  obtain ⟨m3, Hm3⟩ : ∃ m : Nat, Hid (m = mask lo hi ||| mask lo up) := ⟨_, rfl⟩
  rw [← Hm3.out, ← Hm1.out, ← Hm2.out] at o1
  rw [← Hm1.out] at HS1 HR1
  rw [← Hm2.out] at HS2
  rw [← Hm3.out] at HR2
  have Hk : Hid (∀ o o' w', Below ((w.alloc o).alloc o').heap.size ((w.alloc o).alloc o') w' → FnRow B w' v p ∧ Tab w' ∧ Below w.heap.size w w') := fun o o' w' hb => by
    have := (((Below.refl w.heap.size w).alloc (Nat.le_refl _) o).alloc (by simp) o')
    have h' := this.trans (hb.mono (by simp; omega))
    exact ⟨Hr.out.below h', Ht.out.below h', h'⟩
  obtain ⟨A, cap, rfl⟩ := hr.form
  obtain ⟨x0, x1, x2⟩ := boxes_new w #[.slice A p.length cap] #[.int .i64 op, .int .i64 a] 25 65
  have X0 : Hid (Box _ _ _) := x0
  have X1 : Hid (Box _ _ _) := x1
  clear hr ht htk hpu x0 x1 x2
  go_enter Tryd.func47, Tryd.ntmps47
  go_wp2_with fail
  refine (implTakes _ p op a _ (Hk.out _ _ _ (Below.refl _ _)).2.1 (Hk.out _ _ _ (Below.refl _ _)).1).mono ?_
  rintro e w1 ⟨rfl, hb1⟩
  rw [Htk.out]
  have HB0 : Hid (Box w1 _ _) := X0.out.below hb1
  have HB1 : Hid (Box w1 _ _) := X1.out.below hb1
  obtain ⟨_, k2, k3⟩ := Hk.out _ _ _ hb1
  have Ht1 : Hid (Tab w1) := k2
  have Hb1 : Hid (Below w.heap.size w w1) := k3
  clear k2 k3 hb1 X0 X1
  have c1 := HB1.out.at0
  have c2 := HB1.out.at1
  have cz := HB1.out.1
  go_wp2_with fail
  refine Calls.mono (HS1.out _) ?_
  rintro e w2 ⟨rfl, hw2⟩
  have hb2 : Below w1.heap.size w1 w2 := by rw [hw2]; exact (Below.refl _ _).drew
  have HB2 : Hid (Box w2 _ _) := HB1.out.below hb2
  have Ht2 : Hid (Tab w2) := Ht1.out.below hb2
  have Hb2 : Hid (Below w.heap.size w w2) := Hb1.out.trans (hb2.mono Hb1.out.size)
  clear hw2 hb2 c1 c2 cz HB1 HB0
  have c1 := HB2.out.at0
  have c2 := HB2.out.at1
  have cz := HB2.out.1
  go_wp2_with fail
  refine (implPuts op a _ Ht2.out).mono ?_
  rintro e w3 ⟨rfl, hb3⟩
  rw [Hpu.out]
  have HB3 : Hid (Box w3 _ _) := HB2.out.below hb3
  have Hb3 : Hid (Below w.heap.size w w3) := Hb2.out.trans (hb3.mono Hb2.out.size)
  clear hb3 c1 c2 cz HB2
  go_wp2_with fail
  refine Calls.mono (HS2.out _) ?_
  rintro e w4 ⟨rfl, hw4⟩
  have hb4 : Below w3.heap.size w3 w4 := by rw [hw4]; exact (Below.refl _ _).drew
  have HB4 : Hid (Box w4 _ _) := HB3.out.below hb4
  have Hb4 : Hid (Below w.heap.size w w4) := Hb3.out.trans (hb4.mono Hb3.out.size)
  clear hw4 hb4 HB3
  have c1 := HB4.out.at0
  have c2 := HB4.out.at1
  have cz := HB4.out.1
  by_cases h22 : op = 2
  · obtain ⟨k, rfl⟩ := Int.eq_ofNat_of_zero_le (ha (.inl h22)).1
    subst h22
    have hk : k < 16 := by have := (ha (.inl rfl)).2; omega
    have HO : Hid (∀ w', Calls Tryd.prog 49 #[.int .i64 (k : Int)] w' fun e w'' => e = .returned (.int .i64 ((2 ^ k : Nat) : Int)) ∧ w'' = w'.drew) := fun w' => implOne k hk w'
    have H1 : Hid (rdOf 2 k lo hi = 2 ^ k) := HR1.out.trans (if_pos rfl)
    have H2 : Hid (wrOf 2 k lo hi up = m3) := HR2.out.trans (if_neg (by omega))
    go_wp2_with fail
    refine Calls.mono (HO.out _) ?_
    rintro e w5 ⟨rfl, rfl⟩
    go_wp2_with fail
    exact bodyPost_ret (v := .tuple #[.int .i64 ((2 ^ k : Nat) : Int), .int .i64 (m3 : Int)]) (by simp [results, Tryd.results47, go_sem]) rfl ⟨by rw [H1.out, H2.out], Hb4.out.drew⟩
  · have n2 : (op == 2) = false := by simpa using h22
    by_cases h33 : op = 3
    · obtain ⟨k, rfl⟩ := Int.eq_ofNat_of_zero_le (ha (.inr h33)).1
      subst h33
      have hk : k < 16 := by have := (ha (.inr rfl)).2; omega
      have HO : Hid (∀ w', Calls Tryd.prog 49 #[.int .i64 (k : Int)] w' fun e w'' => e = .returned (.int .i64 ((2 ^ k : Nat) : Int)) ∧ w'' = w'.drew) := fun w' => implOne k hk w'
      have H1 : Hid (rdOf 3 k lo hi = m1) := HR1.out.trans (if_neg (by omega))
      have H2 : Hid (wrOf 3 k lo hi up = 2 ^ k) := HR2.out.trans (if_pos rfl)
      go_wp2_with fail
      refine Calls.mono (HO.out _) ?_
      rintro e w5 ⟨rfl, rfl⟩
      go_wp2_with fail
      exact bodyPost_ret (v := .tuple #[.int .i64 (m1 : Int), .int .i64 ((2 ^ k : Nat) : Int)]) (by simp [results, Tryd.results47, go_sem]) rfl ⟨by rw [H1.out, H2.out], Hb4.out.drew⟩
    · have n3 : (op == 3) = false := by simpa using h33
      have H1 : Hid (rdOf op a lo hi = m1) := HR1.out.trans (if_neg h22)
      have H2 : Hid (wrOf op a lo hi up = m3) := HR2.out.trans (if_neg h33)
      go_wp2_with fail
      exact bodyPost_ret (v := .tuple #[.int .i64 (m1 : Int), .int .i64 (m3 : Int)]) (by simp [results, Tryd.results47, go_sem]) rfl ⟨by rw [H1.out, H2.out], Hb4.out⟩

set_option maxRecDepth 100000 in
set_option maxHeartbeats 1600000 in
theorem specReads {B : Nat} (v : Value) (p : List FnM) (op a : Int) (t hi lo : Nat) (w : World) (hr : FnRow B w v p) (htk : takesM p op a = t)
    (e2 : lo + t = hi) (h1 : hi ≤ 16) (ha : op = 2 ∨ op = 3 → 0 ≤ a ∧ a < 16) :
    Calls Tryd.prog 44 #[.agg #[v], .agg #[.int .i64 op, .int .i64 a], .int .i64 (hi : Int)] w fun e w' => e = .returned (.int .i64 ((rdOf op a lo hi : Nat) : Int)) ∧ Below w.heap.size w w' := by
  have Hr : Hid (FnRow B w v p) := hr
  have Htk : Hid (takesM p op a = t) := htk
  have q2 : (hi : Int) - t = lo := by omega
  have hlh : lo ≤ hi := by omega
  have Hm : Hid (∀ w', Calls Tryd.prog 43 #[.int .i64 (lo : Int), .int .i64 (hi : Int)] w' fun e w'' => e = .returned (.int .i64 ((mask lo hi : Nat) : Int)) ∧ w'' = w') := fun w' => specMask lo hi hlh h1 w'
  have HR1 : Hid (rdOf op a lo hi = if op = 2 then 2 ^ a.toNat else mask lo hi) := rfl
  have Hk : Hid (∀ o o' w', Below ((w.alloc o).alloc o').heap.size ((w.alloc o).alloc o') w' → FnRow B w' v p ∧ Below w.heap.size w w') := fun o o' w' hb => by
    have := (((Below.refl w.heap.size w).alloc (Nat.le_refl _) o).alloc (by simp) o')
    have h' := this.trans (hb.mono (by simp; omega))
    exact ⟨Hr.out.below h', h'⟩
  obtain ⟨A, cap, rfl⟩ := hr.form
  clear hr htk
  by_cases h22 : op = 2
  · obtain ⟨k, rfl⟩ := Int.eq_ofNat_of_zero_le (ha (.inl h22)).1
    subst h22
    have hk : k < 16 := by have := (ha (.inl rfl)).2; omega
    have HO : Hid (∀ w', Calls Tryd.prog 29 #[.int .i64 (k : Int)] w' fun e w'' => e = .returned (.int .i64 ((2 ^ k : Nat) : Int)) ∧ w'' = w') := fun w' => specBit k (by omega) w'
    have H1 : Hid (rdOf 2 k lo hi = 2 ^ k) := HR1.out.trans (if_pos rfl)
    go_enter Tryd.func44, Tryd.ntmps44
    go_wp2_with fail
    refine Calls.mono (HO.out _) ?_
    rintro e w5 ⟨rfl, hw5⟩
    subst w5
    go_wp2_with fail
    go_ret
    exact ⟨by rw [H1.out]; rfl, (Hk.out _ _ _ (Below.refl _ _)).2⟩
  · have n2 : (op == 2) = false := by simpa using h22
    have H1 : Hid (rdOf op a lo hi = mask lo hi) := HR1.out.trans (if_neg h22)
    go_enter Tryd.func44, Tryd.ntmps44
    go_wp2_with fail
    refine (specTakes _ p op a _ (Hk.out _ _ _ (Below.refl _ _)).1).mono ?_
    rintro e w1 ⟨rfl, hb1⟩
    rw [Htk.out]
    have Hb1 : Hid (Below w.heap.size w w1) := (Hk.out _ _ _ hb1).2
    clear hb1
    go_wp2_with fail
    refine Calls.mono (Hm.out _) ?_
    rintro e w5 ⟨rfl, hw5⟩
    subst w5
    go_wp2_with fail
    go_ret
    exact ⟨by rw [H1.out]; rfl, Hb1.out⟩

set_option maxRecDepth 100000 in
set_option maxHeartbeats 1600000 in
theorem specWrites {B : Nat} (v : Value) (p : List FnM) (op a : Int) (t u hi lo up : Nat) (w : World) (hr : FnRow B w v p) (htk : takesM p op a = t) (hpu : (opRow op).2.2.2 = u)
    (e2 : lo + t = hi) (e3 : lo + u = up) (h1 : hi ≤ 16) (h2 : up ≤ 16) (ha : op = 2 ∨ op = 3 → 0 ≤ a ∧ a < 16) :
    Calls Tryd.prog 28 #[.agg #[v], .agg #[.int .i64 op, .int .i64 a], .int .i64 (hi : Int)] w fun e w' => e = .returned (.int .i64 ((wsOf op a lo up : Nat) : Int)) ∧ Below w.heap.size w w' := by
  have Hr : Hid (FnRow B w v p) := hr
  have Htk : Hid (takesM p op a = t) := htk
  have Hpu : Hid ((opRow op).2.2.2 = u) := hpu
  have q2 : (hi : Int) - t = lo := by omega
  have q3 : (lo : Int) + u = up := by omega
  have hlu : lo ≤ up := by omega
  have Hm : Hid (∀ w', Calls Tryd.prog 43 #[.int .i64 (lo : Int), .int .i64 (up : Int)] w' fun e w'' => e = .returned (.int .i64 ((mask lo up : Nat) : Int)) ∧ w'' = w') := fun w' => specMask lo up hlu h2 w'
  have HR1 : Hid (wsOf op a lo up = if op = 3 then 2 ^ a.toNat else mask lo up) := rfl
  have Hk : Hid (∀ o o' w', Below ((w.alloc o).alloc o').heap.size ((w.alloc o).alloc o') w' → FnRow B w' v p ∧ Below w.heap.size w w') := fun o o' w' hb => by
    have := (((Below.refl w.heap.size w).alloc (Nat.le_refl _) o).alloc (by simp) o')
    have h' := this.trans (hb.mono (by simp; omega))
    exact ⟨Hr.out.below h', h'⟩
  obtain ⟨A, cap, rfl⟩ := hr.form
  clear hr htk hpu
  by_cases h22 : op = 3
  · obtain ⟨k, rfl⟩ := Int.eq_ofNat_of_zero_le (ha (.inr h22)).1
    subst h22
    have hk : k < 16 := by have := (ha (.inr rfl)).2; omega
    have HO : Hid (∀ w', Calls Tryd.prog 29 #[.int .i64 (k : Int)] w' fun e w'' => e = .returned (.int .i64 ((2 ^ k : Nat) : Int)) ∧ w'' = w') := fun w' => specBit k (by omega) w'
    have H1 : Hid (wsOf 3 k lo up = 2 ^ k) := HR1.out.trans (if_pos rfl)
    go_enter Tryd.func28, Tryd.ntmps28
    go_wp2_with fail
    refine Calls.mono (HO.out _) ?_
    rintro e w5 ⟨rfl, hw5⟩
    subst w5
    go_wp2_with fail
    go_ret
    exact ⟨by rw [H1.out]; rfl, (Hk.out _ _ _ (Below.refl _ _)).2⟩
  · have n2 : (op == 3) = false := by simpa using h22
    have H1 : Hid (wsOf op a lo up = mask lo up) := HR1.out.trans (if_neg h22)
    obtain ⟨x0, x1, x2⟩ := boxes_new w #[.slice A p.length cap] #[.int .i64 op, .int .i64 a] 25 65
    have X1 : Hid (Box _ _ _) := x1
    clear x0 x1 x2
    go_enter Tryd.func28, Tryd.ntmps28
    go_wp2_with fail
    refine (specTakes _ p op a _ (Hk.out _ _ _ (Below.refl _ _)).1).mono ?_
    rintro e w1 ⟨rfl, hb1⟩
    rw [Htk.out]
    have Hb1 : Hid (Below w.heap.size w w1) := (Hk.out _ _ _ hb1).2
    have HB1 : Hid (Box w1 _ _) := X1.out.below hb1
    clear hb1 X1
    have c1 := HB1.out.at0
    have c2 := HB1.out.at1
    have cz := HB1.out.1
    go_wp2_with fail
    refine (specPuts op a _).mono ?_
    rintro e w2 ⟨rfl, hb2⟩
    rw [Hpu.out]
    have Hb2 : Hid (Below w.heap.size w w2) := Hb1.out.trans (hb2.mono Hb1.out.size)
    clear hb2 c1 c2 cz
    go_wp2_with fail
    refine Calls.mono (Hm.out _) ?_
    rintro e w5 ⟨rfl, hw5⟩
    subst w5
    go_wp2_with fail
    go_ret
    exact ⟨by rw [H1.out]; rfl, Hb2.out⟩
end Go.Proofs.YtljhoplcfoiiiaaDoor
