/- impl.readAndWritten; spec.l08Reads, spec.l08Writes, spec.l08Next: what an instruction reads and writes. What is read and written, and where it goes on to, place by place: in memory. -/
import Derived.Test.YtljhoplcfoiiiaaDoorBitA
import Derived.Test.YtljhoplcfoiiiaaDoorLiveA
import Derived.Test.YtljhoplcfoiiiaaDoorImplP
import Derived.Test.YtljhoplcfoiiiaaDoorHeiI
import Derived.BigRegion
import Derived.Deep.RegionHeld3
namespace Go.Proofs.YtljhoplcfoiiiaaDoor
open Go.RowKit

def rdOf (op a : Int) (lo hi : Nat) : Nat := if op = 2 then 2 ^ a.toNat else mask lo hi
def wrOf (op a : Int) (lo hi up : Nat) : Nat := if op = 3 then 2 ^ a.toNat else mask lo hi ||| mask lo up
def wsOf (op a : Int) (lo up : Nat) : Nat := if op = 3 then 2 ^ a.toNat else mask lo up

set_option maxRecDepth 100000 in
set_option maxHeartbeats 1600000 in
theorem implRW {B : Nat} (v : Value) (p : List FnM) (op a : Int) (L h t u hi lo up : Nat) (w : World) (ht : Tab w) (hr : FnRow B w v p) (htk : takesM p op a = t) (hpu : (opRow op).2.2.2 = u)
    (e1 : L + h = hi) (e2 : lo + t = hi) (e3 : lo + u = up) (h1 : hi ≤ 16) (h2 : up ≤ 16) (ha : op = 2 ∨ op = 3 → 0 ≤ a ∧ a < 16) :
    Calls Tryd.prog 47 #[.agg #[v], .int .i64 (L : Int), .agg #[.int .i64 op, .int .i64 a], .int .i64 (h : Int)] w fun e w' => e = .returned (.tuple #[.int .i64 ((rdOf op a lo hi : Nat) : Int), .int .i64 ((wrOf op a lo hi up : Nat) : Int)]) ∧ Below w.heap.size w w' := by
  have Hr : Hid (FnRow B w v p) := hr
  have Ht : Hid (Tab w) := ht
  have Htk : Hid (takesM p op a = t) := htk
  have Hpu : Hid ((opRow op).2.2.2 = u) := hpu
  have q1 : (L : Int) + h = hi := by omega
  have q2 : (hi : Int) - t = lo := by omega
  have q3 : (lo : Int) + u = up := by omega
  have hlh : lo ≤ hi := by omega
  have hlu : lo ≤ up := by omega
  have HS1 : Hid (∀ w', Calls Tryd.prog 69 #[.int .i64 (lo : Int), .int .i64 (hi : Int)] w' fun e w'' => e = .returned (.int .i64 ((mask lo hi : Nat) : Int)) ∧ w'' = w'.drew) := fun w' => implSet lo hi hlh h1 w'
  have HS2 : Hid (∀ w', Calls Tryd.prog 69 #[.int .i64 (lo : Int), .int .i64 (up : Int)] w' fun e w'' => e = .returned (.int .i64 ((mask lo up : Nat) : Int)) ∧ w'' = w'.drew) := fun w' => implSet lo up hlu h2 w'
  have o1 := or_i64 (mask lo hi) (mask lo up) (mask_small h1) (mask_small h2)
  have HR1 : Hid (rdOf op a lo hi = if op = 2 then 2 ^ a.toNat else mask lo hi) := rfl
  have HR2 : Hid (wrOf op a lo hi up = if op = 3 then 2 ^ a.toNat else mask lo hi ||| mask lo up) := rfl
  obtain ⟨m1, Hm1⟩ : ∃ m : Nat, Hid (m = mask lo hi) := ⟨_, rfl⟩
  obtain ⟨m2, Hm2⟩ : ∃ m : Nat, Hid (m = mask lo up) := ⟨_, rfl⟩
  obtain ⟨m3, Hm3⟩ : ∃ m : Nat, Hid (m = mask lo hi ||| mask lo up) := ⟨_, rfl⟩
  rw [← Hm3.out, ← Hm1.out, ← Hm2.out] at o1
  rw [← Hm1.out] at HS1 HR1
  rw [← Hm2.out] at HS2
  rw [← Hm3.out] at HR2
  have Hk : Hid (∀ o o' w', Below ((w.alloc o).alloc o').heap.size ((w.alloc o).alloc o') w' → FnRow B w' v p ∧ Tab w' ∧ Below w.heap.size w w') := fun o o' w' hb => by
    have := (((Below.refl w.heap.size w).alloc (Nat.le_refl _) o).alloc (by simp) o')
    have h' := this.trans (hb.mono (by simp; omega))
    exact ⟨Hr.out.below h', Ht.out.below h', h'⟩
  obtain ⟨A, cap, rfl⟩ := hr.form
  obtain ⟨x0, x1, x2⟩ := boxes_new w #[.slice A p.length cap] #[.int .i64 op, .int .i64 a] 25 65
  have X0 : Hid (Box _ _ _) := x0
  have X1 : Hid (Box _ _ _) := x1
  clear hr ht htk hpu x0 x1 x2
  go_enter Tryd.func47, Tryd.ntmps47
  go_wp2_with fail
  refine (implTakes _ p op a _ (Hk.out _ _ _ (Below.refl _ _)).2.1 (Hk.out _ _ _ (Below.refl _ _)).1).mono ?_
  rintro e w1 ⟨rfl, hb1⟩
  rw [Htk.out]
  have HB0 : Hid (Box w1 _ _) := X0.out.below hb1
  have HB1 : Hid (Box w1 _ _) := X1.out.below hb1
  obtain ⟨_, k2, k3⟩ := Hk.out _ _ _ hb1
  have Ht1 : Hid (Tab w1) := k2
  have Hb1 : Hid (Below w.heap.size w w1) := k3
  clear k2 k3 hb1 X0 X1
  have c1 := HB1.out.at0
  have c2 := HB1.out.at1
  have cz := HB1.out.1
  go_wp2_with fail
  refine Calls.mono (HS1.out _) ?_
  rintro e w2 ⟨rfl, hw2⟩
  have hb2 : Below w1.heap.size w1 w2 := by rw [hw2]; exact (Below.refl _ _).drew
  have HB2 : Hid (Box w2 _ _) := HB1.out.below hb2
  have Ht2 : Hid (Tab w2) := Ht1.out.below hb2
  have Hb2 : Hid (Below w.heap.size w w2) := Hb1.out.trans (hb2.mono Hb1.out.size)
  clear hw2 hb2 c1 c2 cz HB1 HB0
  have c1 := HB2.out.at0
  have c2 := HB2.out.at1
  have cz := HB2.out.1
  go_wp2_with fail
  refine (implPuts op a _ Ht2.out).mono ?_
  rintro e w3 ⟨rfl, hb3⟩
  rw [Hpu.out]
  have HB3 : Hid (Box w3 _ _) := HB2.out.below hb3
  have Hb3 : Hid (Below w.heap.size w w3) := Hb2.out.trans (hb3.mono Hb2.out.size)
  clear hb3 c1 c2 cz HB2
  go_wp2_with fail
  refine Calls.mono (HS2.out _) ?_
  rintro e w4 ⟨rfl, hw4⟩
  have hb4 : Below w3.heap.size w3 w4 := by rw [hw4]; exact (Below.refl _ _).drew
  have HB4 : Hid (Box w4 _ _) := HB3.out.below hb4
  have Hb4 : Hid (Below w.heap.size w w4) := Hb3.out.trans (hb4.mono Hb3.out.size)
  clear hw4 hb4 HB3
  have c1 := HB4.out.at0
  have c2 := HB4.out.at1
  have cz := HB4.out.1
  by_cases h22 : op = 2
  · obtain ⟨k, rfl⟩ := Int.eq_ofNat_of_zero_le (ha (.inl h22)).1
    subst h22
    have hk : k < 16 := by have := (ha (.inl rfl)).2; omega
    have HO : Hid (∀ w', Calls Tryd.prog 49 #[.int .i64 (k : Int)] w' fun e w'' => e = .returned (.int .i64 ((2 ^ k : Nat) : Int)) ∧ w'' = w'.drew) := fun w' => implOne k hk w'
    have H1 : Hid (rdOf 2 k lo hi = 2 ^ k) := HR1.out.trans (if_pos rfl)
    have H2 : Hid (wrOf 2 k lo hi up = m3) := HR2.out.trans (if_neg (by omega))
    go_wp2_with fail
    refine Calls.mono (HO.out _) ?_
    rintro e w5 ⟨rfl, rfl⟩
    go_wp2_with fail
    exact bodyPost_ret (v := .tuple #[.int .i64 ((2 ^ k : Nat) : Int), .int .i64 (m3 : Int)]) (by simp [results, Tryd.results47, go_sem]) rfl ⟨by rw [H1.out, H2.out], Hb4.out.drew⟩
  · have n2 : (op == 2) = false := by simpa using h22
    by_cases h33 : op = 3
    · obtain ⟨k, rfl⟩ := Int.eq_ofNat_of_zero_le (ha (.inr h33)).1
      subst h33
      have hk : k < 16 := by have := (ha (.inr rfl)).2; omega
      have HO : Hid (∀ w', Calls Tryd.prog 49 #[.int .i64 (k : Int)] w' fun e w'' => e = .returned (.int .i64 ((2 ^ k : Nat) : Int)) ∧ w'' = w'.drew) := fun w' => implOne k hk w'
      have H1 : Hid (rdOf 3 k lo hi = m1) := HR1.out.trans (if_neg (by omega))
      have H2 : Hid (wrOf 3 k lo hi up = 2 ^ k) := HR2.out.trans (if_pos rfl)
      go_wp2_with fail
      refine Calls.mono (HO.out _) ?_
      rintro e w5 ⟨rfl, rfl⟩
      go_wp2_with fail
      exact bodyPost_ret (v := .tuple #[.int .i64 (m1 : Int), .int .i64 ((2 ^ k : Nat) : Int)]) (by simp [results, Tryd.results47, go_sem]) rfl ⟨by rw [H1.out, H2.out], Hb4.out.drew⟩
    · have n3 : (op == 3) = false := by simpa using h33
      have H1 : Hid (rdOf op a lo hi = m1) := HR1.out.trans (if_neg h22)
      have H2 : Hid (wrOf op a lo hi up = m3) := HR2.out.trans (if_neg h33)
      go_wp2_with fail
      exact bodyPost_ret (v := .tuple #[.int .i64 (m1 : Int), .int .i64 (m3 : Int)]) (by simp [results, Tryd.results47, go_sem]) rfl ⟨by rw [H1.out, H2.out], Hb4.out⟩

set_option maxRecDepth 100000 in
set_option maxHeartbeats 1600000 in
theorem specReads {B : Nat} (v : Value) (p : List FnM) (op a : Int) (t hi lo : Nat) (w : World) (hr : FnRow B w v p) (htk : takesM p op a = t)
    (e2 : lo + t = hi) (h1 : hi ≤ 16) (ha : op = 2 ∨ op = 3 → 0 ≤ a ∧ a < 16) :
    Calls Tryd.prog 44 #[.agg #[v], .agg #[.int .i64 op, .int .i64 a], .int .i64 (hi : Int)] w fun e w' => e = .returned (.int .i64 ((rdOf op a lo hi : Nat) : Int)) ∧ Below w.heap.size w w' := by
  have Hr : Hid (FnRow B w v p) := hr
  have Htk : Hid (takesM p op a = t) := htk
  have q2 : (hi : Int) - t = lo := by omega
  have hlh : lo ≤ hi := by omega
  have Hm : Hid (∀ w', Calls Tryd.prog 43 #[.int .i64 (lo : Int), .int .i64 (hi : Int)] w' fun e w'' => e = .returned (.int .i64 ((mask lo hi : Nat) : Int)) ∧ w'' = w') := fun w' => specMask lo hi hlh h1 w'
  have HR1 : Hid (rdOf op a lo hi = if op = 2 then 2 ^ a.toNat else mask lo hi) := rfl
  have Hk : Hid (∀ o o' w', Below ((w.alloc o).alloc o').heap.size ((w.alloc o).alloc o') w' → FnRow B w' v p ∧ Below w.heap.size w w') := fun o o' w' hb => by
    have := (((Below.refl w.heap.size w).alloc (Nat.le_refl _) o).alloc (by simp) o')
    have h' := this.trans (hb.mono (by simp; omega))
    exact ⟨Hr.out.below h', h'⟩
  obtain ⟨A, cap, rfl⟩ := hr.form
  clear hr htk
  by_cases h22 : op = 2
  · obtain ⟨k, rfl⟩ := Int.eq_ofNat_of_zero_le (ha (.inl h22)).1
    subst h22
    have hk : k < 16 := by have := (ha (.inl rfl)).2; omega
    have HO : Hid (∀ w', Calls Tryd.prog 29 #[.int .i64 (k : Int)] w' fun e w'' => e = .returned (.int .i64 ((2 ^ k : Nat) : Int)) ∧ w'' = w') := fun w' => specBit k (by omega) w'
    have H1 : Hid (rdOf 2 k lo hi = 2 ^ k) := HR1.out.trans (if_pos rfl)
    go_enter Tryd.func44, Tryd.ntmps44
    go_wp2_with fail
    refine Calls.mono (HO.out _) ?_
    rintro e w5 ⟨rfl, hw5⟩
    subst w5
    go_wp2_with fail
    go_ret
    exact ⟨by rw [H1.out]; rfl, (Hk.out _ _ _ (Below.refl _ _)).2⟩
  · have n2 : (op == 2) = false := by simpa using h22
    have H1 : Hid (rdOf op a lo hi = mask lo hi) := HR1.out.trans (if_neg h22)
    go_enter Tryd.func44, Tryd.ntmps44
    go_wp2_with fail
    refine (specTakes _ p op a _ (Hk.out _ _ _ (Below.refl _ _)).1).mono ?_
    rintro e w1 ⟨rfl, hb1⟩
    rw [Htk.out]
    have Hb1 : Hid (Below w.heap.size w w1) := (Hk.out _ _ _ hb1).2
    clear hb1
    go_wp2_with fail
    refine Calls.mono (Hm.out _) ?_
    rintro e w5 ⟨rfl, hw5⟩
    subst w5
    go_wp2_with fail
    go_ret
    exact ⟨by rw [H1.out]; rfl, Hb1.out⟩

set_option maxRecDepth 100000 in
set_option maxHeartbeats 1600000 in
theorem specWrites {B : Nat} (v : Value) (p : List FnM) (op a : Int) (t u hi lo up : Nat) (w : World) (hr : FnRow B w v p) (htk : takesM p op a = t) (hpu : (opRow op).2.2.2 = u)
    (e2 : lo + t = hi) (e3 : lo + u = up) (h1 : hi ≤ 16) (h2 : up ≤ 16) (ha : op = 2 ∨ op = 3 → 0 ≤ a ∧ a < 16) :
    Calls Tryd.prog 28 #[.agg #[v], .agg #[.int .i64 op, .int .i64 a], .int .i64 (hi : Int)] w fun e w' => e = .returned (.int .i64 ((wsOf op a lo up : Nat) : Int)) ∧ Below w.heap.size w w' := by
  have Hr : Hid (FnRow B w v p) := hr
  have Htk : Hid (takesM p op a = t) := htk
  have Hpu : Hid ((opRow op).2.2.2 = u) := hpu
  have q2 : (hi : Int) - t = lo := by omega
  have q3 : (lo : Int) + u = up := by omega
  have hlu : lo ≤ up := by omega
  have Hm : Hid (∀ w', Calls Tryd.prog 43 #[.int .i64 (lo : Int), .int .i64 (up : Int)] w' fun e w'' => e = .returned (.int .i64 ((mask lo up : Nat) : Int)) ∧ w'' = w') := fun w' => specMask lo up hlu h2 w'
  have HR1 : Hid (wsOf op a lo up = if op = 3 then 2 ^ a.toNat else mask lo up) := rfl
  have Hk : Hid (∀ o o' w', Below ((w.alloc o).alloc o').heap.size ((w.alloc o).alloc o') w' → FnRow B w' v p ∧ Below w.heap.size w w') := fun o o' w' hb => by
    have := (((Below.refl w.heap.size w).alloc (Nat.le_refl _) o).alloc (by simp) o')
    have h' := this.trans (hb.mono (by simp; omega))
    exact ⟨Hr.out.below h', h'⟩
  obtain ⟨A, cap, rfl⟩ := hr.form
  clear hr htk hpu
  by_cases h22 : op = 3
  · obtain ⟨k, rfl⟩ := Int.eq_ofNat_of_zero_le (ha (.inr h22)).1
    subst h22
    have hk : k < 16 := by have := (ha (.inr rfl)).2; omega
    have HO : Hid (∀ w', Calls Tryd.prog 29 #[.int .i64 (k : Int)] w' fun e w'' => e = .returned (.int .i64 ((2 ^ k : Nat) : Int)) ∧ w'' = w') := fun w' => specBit k (by omega) w'
    have H1 : Hid (wsOf 3 k lo up = 2 ^ k) := HR1.out.trans (if_pos rfl)
    go_enter Tryd.func28, Tryd.ntmps28
    go_wp2_with fail
    refine Calls.mono (HO.out _) ?_
    rintro e w5 ⟨rfl, hw5⟩
    subst w5
    go_wp2_with fail
    go_ret
    exact ⟨by rw [H1.out]; rfl, (Hk.out _ _ _ (Below.refl _ _)).2⟩
  · have n2 : (op == 3) = false := by simpa using h22
    have H1 : Hid (wsOf op a lo up = mask lo up) := HR1.out.trans (if_neg h22)
    obtain ⟨x0, x1, x2⟩ := boxes_new w #[.slice A p.length cap] #[.int .i64 op, .int .i64 a] 25 65
    have X1 : Hid (Box _ _ _) := x1
    clear x0 x1 x2
    go_enter Tryd.func28, Tryd.ntmps28
    go_wp2_with fail
    refine (specTakes _ p op a _ (Hk.out _ _ _ (Below.refl _ _)).1).mono ?_
    rintro e w1 ⟨rfl, hb1⟩
    rw [Htk.out]
    have Hb1 : Hid (Below w.heap.size w w1) := (Hk.out _ _ _ hb1).2
    have HB1 : Hid (Box w1 _ _) := X1.out.below hb1
    clear hb1 X1
    have c1 := HB1.out.at0
    have c2 := HB1.out.at1
    have cz := HB1.out.1
    go_wp2_with fail
    refine (specPuts op a _).mono ?_
    rintro e w2 ⟨rfl, hb2⟩
    rw [Hpu.out]
    have Hb2 : Hid (Below w.heap.size w w2) := Hb1.out.trans (hb2.mono Hb1.out.size)
    clear hb2 c1 c2 cz
    go_wp2_with fail
    refine Calls.mono (Hm.out _) ?_
    rintro e w5 ⟨rfl, hw5⟩
    subst w5
    go_wp2_with fail
    go_ret
    exact ⟨by rw [H1.out]; rfl, Hb2.out⟩
end Go.Proofs.YtljhoplcfoiiiaaDoor

namespace Go.Proofs.YtljhoplcfoiiiaaDoor
open Go.RowKit

theorem Tryd.infoS : (Tryd.prog.info? 28).map (fun i => (i.zero, i.size, i.bytes)) = some (some (.slice none 0 0), 1, 24) := by kernel_rfl

theorem VRow.up {W : World} {b : Nat} {vs : List Value} (h : VRow W b vs) (o : Obj) : VRow (W.alloc o) b vs := h.below ((Below.refl _ _).alloc (Nat.le_refl _) _)
theorem VRow.drewn {W : World} {b : Nat} {vs : List Value} (h : VRow W b vs) : VRow W.drew b vs := h.below (Below.refl _ _).drew
theorem vnew (W : World) (C : Array Value) (t : TypeId) (b : Nat) (vs : List Value) (hb : b = W.heap.size) (hv : C.toList = vs) : VRow (W.alloc (.cells C t)) b vs := by
  subst hb; subst hv; exact vrow_new W C t

/-- the three lists, as they are made -/
structure UseN (w wd : World) (prg : Value) (fc : List Value) (n M rb wb gb : Nat) : Prop where
  use : VRow wd M [.slice (some ⟨rb, 0, none⟩) n n, .slice (some ⟨wb, 0, none⟩) n n, .slice (some ⟨gb, 0, none⟩) n n]
  rd : VRow wd rb (madeCells #[.int .i64 0] n).toList
  wr : VRow wd wb (madeCells #[.int .i64 0] n).toList
  gs : VRow wd gb (madeCells #[.slice none 0 0] n).toList
  far : (w.heap.size + 3 ≤ M ∧ M < w.heap.size + 7) ∧ (w.heap.size + 3 ≤ rb ∧ rb < w.heap.size + 7) ∧ (w.heap.size + 3 ≤ wb ∧ wb < w.heap.size + 7) ∧ (w.heap.size + 3 ≤ gb ∧ gb < w.heap.size + 7) ∧ M ≠ rb ∧ M ≠ wb ∧ M ≠ gb ∧ rb ≠ wb ∧ rb ≠ gb ∧ wb ≠ gb
  prog : VRow wd w.heap.size [prg]
  res : VRow wd (w.heap.size + 1) [.slice none 0 0, .slice none 0 0, .slice none 0 0]
  fn : VRow wd (w.heap.size + 1 + 1) fc
  bel : Below w.heap.size w wd
  size : wd.heap.size = w.heap.size + 7

def UseNew (w wd : World) (prg : Value) (fc : List Value) (n : Nat) (x : Value) : Prop := ∃ M rb wb gb, x = .pointer (some ⟨M, 0, none⟩) ∧ UseN w wd prg fc n M rb wb gb

theorem below7 (w : World) (o1 o2 o3 o4 o5 o6 o7 : Obj) : Below w.heap.size w (((((((w.alloc o1).alloc o2).alloc o3).alloc o4).alloc o5).alloc o6).alloc o7).drew :=
  ((((((((Below.refl _ _).alloc (Nat.le_refl _) _).alloc (by simp) _).alloc (by simp; omega) _).alloc (by simp; omega) _).alloc (by simp; omega) _).alloc (by simp; omega) _).alloc (by simp; omega) _).drew

theorem MapH.ne {w : World} {b b' : Nat} {m : List (Option Int)} {v : Value} {vs : List Value} (h : MapH w b m) (h' : VRow w b' (v :: vs)) : b ≠ b' := by
  rintro rfl
  obtain ⟨k, D, ⟨es, clock, h1, _⟩, _⟩ := h
  have := (h'.2 0 (by simp)).1
  simp [World.cell?, h1] at this

structure UseS (w wr : World) (prg : Value) (fc : List Value) (n M rb wb gb : Nat) (rd ws : List Nat) (gs : List Value) : Prop where
  use : VRow wr M [.slice (some ⟨rb, 0, none⟩) n n, .slice (some ⟨wb, 0, none⟩) n n, .slice (some ⟨gb, 0, none⟩) n n]
  rd : VRow wr rb (ints (nats rd))
  wt : VRow wr wb (ints (nats ws))
  gs : VRow wr gb gs
  far : (w.heap.size + 3 ≤ M ∧ M < w.heap.size + 7) ∧ (w.heap.size + 3 ≤ rb ∧ rb < w.heap.size + 7) ∧ (w.heap.size + 3 ≤ wb ∧ wb < w.heap.size + 7) ∧ (w.heap.size + 3 ≤ gb ∧ gb < w.heap.size + 7) ∧ M ≠ rb ∧ M ≠ wb ∧ M ≠ gb ∧ rb ≠ wb ∧ rb ≠ gb ∧ wb ≠ gb
  prog : VRow wr w.heap.size [prg]
  res : VRow wr (w.heap.size + 1) [.slice none 0 0, .slice none 0 0, .slice none 0 0]
  fn : VRow wr (w.heap.size + 1 + 1) fc
  bel : Below w.heap.size w wr
  size : w.heap.size + 7 ≤ wr.heap.size

theorem UseS.below {w wr w1 : World} {prg : Value} {fc : List Value} {n M rb wb gb : Nat} {rd ws : List Nat} {gs : List Value} (h : UseS w wr prg fc n M rb wb gb rd ws gs) (hb : Below wr.heap.size wr w1) : UseS w w1 prg fc n M rb wb gb rd ws gs :=
  ⟨h.use.below hb, h.rd.below hb, h.wt.below hb, h.gs.below hb, h.far, h.prog.below hb, h.res.below hb, h.fn.below hb, h.bel.trans (hb.mono h.bel.size), Nat.le_trans h.size hb.size⟩

theorem nats_set (l : List Nat) (k x : Nat) : (nats l).set k (x : Int) = nats (l.set k x) := by simp [nats, List.map_set]

theorem UseS.setR {w wr : World} {prg : Value} {fc : List Value} {n M rb wb gb : Nat} {rd ws : List Nat} {gs : List Value} (h : UseS w wr prg fc n M rb wb gb rd ws gs) (k x : Nat) (hk : k < rd.length) : UseS w (wr.setCell ⟨rb, k, none⟩ (.int .i64 (x : Int))) prg fc n M rb wb gb (rd.set k x) ws gs := by
  obtain ⟨f1, f2, f3, f4, d1, d2, d3, d4, d5, d6⟩ := h.far
  refine ⟨h.use.set_far _ _ (by show rb ≠ M; omega), ?_, h.wt.set_far _ _ (by show rb ≠ wb; omega), h.gs.set_far _ _ (by show rb ≠ gb; omega), h.far, h.prog.set_far _ _ (by show rb ≠ w.heap.size; omega), h.res.set_far _ _ (by show rb ≠ w.heap.size + 1; omega), h.fn.set_far _ _ (by show rb ≠ w.heap.size + 1 + 1; omega), h.bel.setCell (by show w.heap.size ≤ rb; omega) _, by simpa using h.size⟩
  have := h.rd.set_at k (.int .i64 (x : Int)) (by simpa [ints, nats] using hk)
  rwa [ints_set, nats_set] at this

theorem UseS.setW {w wr : World} {prg : Value} {fc : List Value} {n M rb wb gb : Nat} {rd ws : List Nat} {gs : List Value} (h : UseS w wr prg fc n M rb wb gb rd ws gs) (k x : Nat) (hk : k < ws.length) : UseS w (wr.setCell ⟨wb, k, none⟩ (.int .i64 (x : Int))) prg fc n M rb wb gb rd (ws.set k x) gs := by
  obtain ⟨f1, f2, f3, f4, d1, d2, d3, d4, d5, d6⟩ := h.far
  refine ⟨h.use.set_far _ _ (by show wb ≠ M; omega), h.rd.set_far _ _ (by show wb ≠ rb; omega), ?_, h.gs.set_far _ _ (by show wb ≠ gb; omega), h.far, h.prog.set_far _ _ (by show wb ≠ w.heap.size; omega), h.res.set_far _ _ (by show wb ≠ w.heap.size + 1; omega), h.fn.set_far _ _ (by show wb ≠ w.heap.size + 1 + 1; omega), h.bel.setCell (by show w.heap.size ≤ wb; omega) _, by simpa using h.size⟩
  have := h.wt.set_at k (.int .i64 (x : Int)) (by simpa [ints, nats] using hk)
  rwa [ints_set, nats_set] at this

theorem UseS.setG {w wr : World} {prg : Value} {fc : List Value} {n M rb wb gb : Nat} {rd ws : List Nat} {gs : List Value} (h : UseS w wr prg fc n M rb wb gb rd ws gs) (k : Nat) (x : Value) (hk : k < gs.length) : UseS w (wr.setCell ⟨gb, k, none⟩ x) prg fc n M rb wb gb rd ws (gs.set k x) := by
  obtain ⟨f1, f2, f3, f4, d1, d2, d3, d4, d5, d6⟩ := h.far
  exact ⟨h.use.set_far _ _ (by show gb ≠ M; omega), h.rd.set_far _ _ (by show gb ≠ rb; omega), h.wt.set_far _ _ (by show gb ≠ wb; omega), h.gs.set_at k x hk, h.far, h.prog.set_far _ _ (by show gb ≠ w.heap.size; omega), h.res.set_far _ _ (by show gb ≠ w.heap.size + 1; omega), h.fn.set_far _ _ (by show gb ≠ w.heap.size + 1 + 1; omega), h.bel.setCell (by show w.heap.size ≤ gb; omega) _, by simpa using h.size⟩

/-- numbers by place, the first q of them told -/
def tabN (n q : Nat) (F : Nat → Nat) : List Nat := (List.range n).map fun j => if j < q then F j else 0
theorem tabN_length (n q : Nat) (F : Nat → Nat) : (tabN n q F).length = n := by simp [tabN]
theorem tabN_none (n : Nat) (F : Nat → Nat) : tabN n 0 F = List.replicate n 0 := by
  apply List.ext_getElem <;> simp [tabN]
theorem tabN_get (n q : Nat) (F : Nat → Nat) (j : Nat) (hj : j < n) : (tabN n q F).getD j 0 = if j < q then F j else 0 := by
  simp [tabN, List.getD, hj]
theorem tabN_set (n q : Nat) (F : Nat → Nat) : (tabN n q F).set q (F q) = tabN n (q + 1) F := by
  apply List.ext_getElem
  · simp [tabN]
  · intro j h1 h2
    simp only [tabN, List.getElem_set, List.getElem_map, List.getElem_range]
    by_cases h : q = j
    · subst h; simp
    · rw [if_neg h]
      by_cases h' : j < q
      · rw [if_pos h', if_pos (by omega)]
      · rw [if_neg h', if_neg (by omega)]
theorem tabN_skip (n q : Nat) (F : Nat → Nat) (h : F q = 0) : tabN n (q + 1) F = tabN n q F := by
  apply List.ext_getElem
  · simp [tabN]
  · intro j h1 h2
    simp only [tabN, List.getElem_map, List.getElem_range]
    by_cases e : q = j
    · subst e; simp [h]
    · by_cases h' : j < q
      · rw [if_pos h', if_pos (by omega)]
      · rw [if_neg h', if_neg (by omega)]

/-- where it goes on to, the first q places told -/
def RowsTo (U : Nat) (wr : World) (n q : Nat) (nx : Nat → List Int) (gs : List Value) : Prop := gs.length = n ∧ ∀ j, j < n → IRow U wr (gs.getD j (.slice none 0 0)) (if j < q then nx j else [])

theorem RowsTo.below {U : Nat} {wr w1 : World} {n q : Nat} {nx : Nat → List Int} {gs : List Value} (h : RowsTo U wr n q nx gs) (hb : Below wr.heap.size wr w1) : RowsTo U w1 n q nx gs := ⟨h.1, fun j hj => (h.2 j hj).below hb⟩
theorem RowsTo.setLow {U : Nat} {wr : World} {n q : Nat} {nx : Nat → List Int} {gs : List Value} (h : RowsTo U wr n q nx gs) (a : Addr) (ha : a.block < U) (u : Value) : RowsTo U (wr.setCell a u) n q nx gs := ⟨h.1, fun j hj => (h.2 j hj).set ha u⟩
theorem RowsTo.fresh (U : Nat) (wr : World) (n : Nat) (nx : Nat → List Int) : RowsTo U wr n 0 nx (List.replicate n (.slice none 0 0)) := ⟨by simp, fun j hj => by
  have : (List.replicate n (Value.slice none 0 0)).getD j (.slice none 0 0) = .slice none 0 0 := by simp [List.getD, hj]
  rw [this, if_neg (by omega)]
  exact ⟨none, 0, rfl, by simp, fun i hi => by simp at hi⟩⟩
theorem RowsTo.skip {U : Nat} {wr : World} {n q : Nat} {nx : Nat → List Int} {gs : List Value} (h : RowsTo U wr n q nx gs) (hx : nx q = []) : RowsTo U wr n (q + 1) nx gs := ⟨h.1, fun j hj => by
  have := h.2 j hj
  by_cases e : j = q
  · subst e; rw [if_neg (by omega)] at this; rw [if_pos (by omega), hx]; exact this
  · by_cases h' : j < q
    · rw [if_pos h'] at this; rw [if_pos (by omega)]; exact this
    · rw [if_neg h'] at this; rw [if_neg (by omega)]; exact this⟩
theorem RowsTo.put {U : Nat} {wr : World} {n q : Nat} {nx : Nat → List Int} {gs : List Value} (h : RowsTo U wr n q nx gs) (x : Value) (hx : IRow U wr x (nx q)) (hq : q < n) : RowsTo U wr n (q + 1) nx (gs.set q x) := ⟨by simpa using h.1, fun j hj => by
  have := h.2 j hj
  by_cases e : j = q
  · subst e
    rw [show (gs.set j x).getD j (.slice none 0 0) = x by simp [List.getD, h.1, hj], if_pos (by omega)]
    exact hx
  · rw [show (gs.set q x).getD j (.slice none 0 0) = gs.getD j (.slice none 0 0) by simp [List.getD, Ne.symm e]]
    by_cases h' : j < q
    · rw [if_pos h'] at this; rw [if_pos (by omega)]; exact this
    · rw [if_neg h'] at this; rw [if_neg (by omega)]; exact this⟩

/-- what useOf tells -/
def UseTold (p : List FnM) (c : List (Int × Int)) (L : Nat) (hs : List Int) (w w' : World) (e : Ending) : Prop :=
  ∃ rb wb gb gs, e = .returned (.agg #[.slice (some ⟨rb, 0, none⟩) c.length c.length, .slice (some ⟨wb, 0, none⟩) c.length c.length, .slice (some ⟨gb, 0, none⟩) c.length c.length]) ∧ VRow w' rb (ints (nats (tabN c.length c.length (rdM p c L hs)))) ∧
    VRow w' wb (ints (nats (tabN c.length c.length (wrI p c L hs)))) ∧ VRow w' gb gs ∧ RowsTo 0 w' c.length c.length (nxM c hs) gs ∧ Below w.heap.size w w'

end Go.Proofs.YtljhoplcfoiiiaaDoor
