/- spec.l06Do: arithmetic. spec.l06Array; spec.l06Do: unary, the heap's length. spec.l06Do: the heap. -/
import Derived.Test.YtnknnncehcofnaaGreatDoorJ36MacX
import Derived.BigRegion
import Derived.Deep.RegionHeld3
import Derived.Test.YtnknnncehcofnaaGreatDoorJ24MacL
namespace Go.Proofs.YtnknnncehcofnaaGreatDoor
open Go.RowKit

theorem MacY.below {pr : Pr} {B m : Nat} {w w' : World} {s : StM} (h : MacY pr B m w s) (hb : Below w.heap.size w w') : MacY pr B m w' s := by
  obtain ⟨own, V, C, M⟩ := h
  exact ⟨own, V, C, M.below hb⟩

def DoT (pr : Pr) (B m : Nat) (s : StM) (op : Int) (v : List Int) (w w' : World) (e : Ending) : Prop :=
  e = .returned (.agg #[.int .i64 (doM op v s.heap).1.1, .int .i64 (doM op v s.heap).1.2]) ∧ MacY pr B m w' { s with heap := (doM op v s.heap).2 } ∧ Below B w w'

/-- a machine beside a block that is none's -/
structure MacR (pr : Pr) (B m R : Nat) (own : Nat → Nat → Tag) (V : Tag → Value) (C : Tag → List Value) (s : StM) (w0 w : World) : Prop where
  mac : Mac B m 0 pr own w V C s
  no : ∀ j, own R j = .no
  ne : R ≠ m
  le : B ≤ R
  bel : Below B w0 w
  row : VRow w R [.int .i64 0, .int .i64 0]
  nf : ∀ j, pr.fixed R j = none

theorem MacR.below {pr : Pr} {B m R : Nat} {own : Nat → Nat → Tag} {V : Tag → Value} {C : Tag → List Value} {s : StM} {w0 w w' : World} (h : MacR pr B m R own V C s w0 w) (hb : Below w.heap.size w w') : MacR pr B m R own V C s w0 w' :=
  ⟨h.mac.below hb, h.no, h.ne, h.le, h.bel.trans (hb.mono (Nat.le_of_lt (Nat.lt_of_le_of_lt h.mac.base h.mac.lt))), h.row.below hb, h.nf⟩

theorem macR_new {pr : Pr} {B m : Nat} {own : Nat → Nat → Tag} {V : Tag → Value} {C : Tag → List Value} {s : StM} {w : World} (M : Mac B m 0 pr own w V C s) (t : TypeId) : MacR pr B m w.heap.size (cutOwn w.heap.size own) V C s w (w.alloc (.cells #[.int .i64 0, .int .i64 0] t)) :=
  ⟨M.cutOwn.below ((Below.refl _ _).alloc (Nat.le_refl _) _), fun j => by show (if w.heap.size < w.heap.size then _ else _) = _; rw [if_neg (Nat.lt_irrefl _)], Nat.ne_of_gt M.lt, Nat.le_of_lt (Nat.lt_of_le_of_lt M.base M.lt), (Below.refl _ _).alloc (Nat.le_of_lt (Nat.lt_of_le_of_lt M.base M.lt)) _, vrow_new w #[.int .i64 0, .int .i64 0] t, M.unfixed _ (Nat.le_refl _)⟩

/-- the answer is written -/
theorem MacR.put {pr : Pr} {B m R : Nat} {own : Nat → Nat → Tag} {V : Tag → Value} {C : Tag → List Value} {s : StM} {w0 w : World} (h : MacR pr B m R own V C s w0 w) (x y : Value) : MacY pr B m ((w.setCell ⟨R, 0, none⟩ x).setCell ⟨R, 1, none⟩ y) s ∧ Below B w0 ((w.setCell ⟨R, 0, none⟩ x).setCell ⟨R, 1, none⟩ y) ∧ VRow ((w.setCell ⟨R, 0, none⟩ x).setCell ⟨R, 1, none⟩ y) R [x, y] :=
  ⟨⟨_, _, _, (h.mac.setFree R 0 x h.no h.ne h.le h.nf).setFree R 1 y h.no h.ne h.le h.nf⟩, (h.bel.setCell h.le _).setCell h.le _, (h.row.set_at 0 x (by simp)).set_at 1 y (by simp)⟩

set_option maxRecDepth 100000 in
set_option maxHeartbeats 1600000 in
theorem specDoBin {pr : Pr} (B m : Nat) (s : StM) (op a b : Int) (U : Nat) (v : Value) (w : World) (hM : MacY pr B m w s) (hv : IRow U w v [a, b]) (hop : 10 ≤ op ∧ op ≤ 23) :
    Calls Tryz.prog 112 #[.int .i64 op, v, .pointer (some ⟨m, 1, none⟩)] w fun e w' => DoT pr B m s op [a, b] w w' e := by
  obtain ⟨own, V, C, M⟩ := hM
  have HR : Hid (MacR pr B m w.heap.size _ V C s w (w.alloc (.cells #[.int .i64 0, .int .i64 0] 166))) := macR_new M _
  have hal : Below w.heap.size w (w.alloc (.cells #[.int .i64 0, .int .i64 0] 166)) := (Below.refl _ _).alloc (Nat.le_refl _) _
  have hd : doM op [a, b] s.heap = ((binN op a b, binT op b), s.heap) := by
    unfold doM
    simp only [List.getD_cons_zero, List.getD_cons_succ]
    rw [if_pos hop]
  have Hd : Hid (doM op [a, b] s.heap = ((binN op a b, binT op b), s.heap)) := hd
  obtain ⟨A, c, rfl⟩ := hv.form
  obtain ⟨b0, o0, rfl, _, hl0, v0⟩ := hv.at 0 (by simp)
  obtain ⟨b1, o1, e1, _, hl1, v1⟩ := hv.at 1 (by simp)
  simp only [Option.some.injEq, Addr.mk.injEq, and_true] at e1
  obtain ⟨rfl, rfl⟩ := e1
  simp only [List.getElem_cons_zero, List.getElem_cons_succ, Nat.add_zero] at v0 v1
  have HV : Hid (∀ W, Below w.heap.size w W → W.cell? ⟨b0, o0, none⟩ = some (.int .i64 a) ∧ W.cell? ⟨b0, o0 + 1, none⟩ = some (.int .i64 b)) := fun W h => ⟨by rw [h.cell (by exact hl0)]; exact v0, by rw [h.cell (by exact hl0)]; exact v1⟩
  have hib : isBin op = true := by simp [isBin]; exact hop
  have HB : Hid (∀ W, Calls Tryz.prog 169 #[.int .i64 op] W fun e w' => e = .returned (.bool true) ∧ w' = W) := fun W => by rw [← hib]; exact specBin op W
  have HBin : Hid (∀ W, Calls Tryz.prog 171 #[.int .i64 op, .int .i64 a, .int .i64 b] W fun e w' => e = .returned (.agg #[.int .i64 (binN op a b), .int .i64 (binT op b)]) ∧ Below W.heap.size W w') := fun W => specBinary op a b W
  have Hal : Hid (Below w.heap.size w (w.alloc (.cells #[.int .i64 0, .int .i64 0] 166))) := hal
  clear M hal hd hv v0 v1 hib
  go_enter Tryz.func112, Tryz.ntmps112
  go_wp2_with fail
  refine Calls.mono (HB.out _) ?_
  rintro e wx ⟨rfl, hwx⟩
  subst wx
  obtain ⟨W, hW⟩ : ∃ W, W = w.alloc (.cells #[.int .i64 0, .int .i64 0] 166) := ⟨_, rfl⟩
  rw [← hW] at HR Hal ⊢
  clear hW
  obtain ⟨x0, x1⟩ := HV.out W Hal.out
  obtain ⟨N, HN⟩ : ∃ N, Hid (N = binN op a b) := ⟨_, rfl⟩
  obtain ⟨T, HT⟩ : ∃ T, Hid (T = binT op b) := ⟨_, rfl⟩
  rw [← HN.out, ← HT.out] at HBin Hd
  go_upto_region 2 with fail
  have hb0 : Below W.heap.size W W.drew := (Below.refl _ _).drew
  go_region_held3 (fun w' => w'.cell? ⟨b0, o0, none⟩ = some (.int .i64 a) ∧ w'.cell? ⟨b0, o0 + 1, none⟩ = some (.int .i64 b))
    (first | (exact ⟨x0, x1⟩) | (exact HY1.out) | (exact HY2.out))
    (first | (go_at_call 171; refine (HBin.out _).mono ?_; rintro e wA ⟨rfl, hbA⟩
              have hbA' := hb0.trans (hbA.mono hb0.size)
              have HRA : Hid (MacR _ _ _ _ _ _ _ _ _ _) := HR.out.below hbA'
              obtain ⟨p0, p1, p2⟩ := HRA.out.put (.int .i64 N) (.int .i64 T)
              have HP : Hid (MacY _ _ _ _ _ ∧ Below _ _ _ ∧ VRow _ _ _) := ⟨p0, p1, p2⟩
              have HY1 : Hid (_ ∧ _) := HV.out wA (Hal.out.trans (hbA'.mono Hal.out.size))
              have hne : w.heap.size ≠ b0 := by omega
              have HY2 : Hid (((wA.setCell ⟨w.heap.size, 0, none⟩ (.int .i64 N)).setCell ⟨w.heap.size, 1, none⟩ (.int .i64 T)).cell? ⟨b0, o0, none⟩ = some (.int .i64 a) ∧ ((wA.setCell ⟨w.heap.size, 0, none⟩ (.int .i64 N)).setCell ⟨w.heap.size, 1, none⟩ (.int .i64 T)).cell? ⟨b0, o0 + 1, none⟩ = some (.int .i64 b)) :=
                HV.out _ (((Hal.out.trans (hbA'.mono Hal.out.size)).setCell (Nat.le_refl _) _).setCell (Nat.le_refl _) _)
              obtain ⟨r0, f0⟩ := HRA.out.row.2 0 (by simp)
              obtain ⟨r1, f1⟩ := HRA.out.row.2 1 (by simp)
              have rz := HRA.out.row.1
              simp only [List.getElem_cons_succ, List.getElem_cons_zero] at r0 r1
              clear p0 p1 p2))
  all_goals
    go_wp2_with fail
    refine bodyPost_ret (v := .agg #[.int .i64 N, .int .i64 T]) (by simp [results, Tryz.results112, go_sem, HP.out.2.2.at0, HP.out.2.2.at1]) rfl ?_
    refine ⟨by rw [Hd.out], ?_, HP.out.2.1⟩
    rw [Hd.out]
    exact HP.out.1
end Go.Proofs.YtnknnncehcofnaaGreatDoor

namespace Go.Proofs.YtnknnncehcofnaaGreatDoor
open Go.RowKit

set_option maxHeartbeats 1600000 in
theorem specArrIn (bh oh n ch i : Nat) (A : Option Addr) (k c : Nat) (w : World) (hi : i < n) (hn : n ≤ 1048576) (c0 : w.cell? ⟨bh, oh + i, none⟩ = some (.slice A k c)) :
    Calls Tryz.prog 173 #[.slice (some ⟨bh, oh, none⟩) n ch, .int .i64 ((i : Int) + 1)] w fun e w' => e = .returned (.tuple #[.slice A k c, .bool true]) ∧ w' = w := by
  have h1 : decide ((i : Int) + 1 < 1) = false := by simp; omega
  have h2 : ¬ ((n : Int) < (i : Int) + 1) := by omega
  have h3 : (i : Int) + 1 - 1 = (i : Int) := by omega
  have h4 : (i : Int) < (n : Int) := by omega
  go_enter Tryz.func173, Tryz.ntmps173
  go_wp2_with fail
  exact bodyPost_ret (v := .tuple #[.slice A k c, .bool true]) (by simp [results, Tryz.results173, go_sem]) rfl ⟨rfl, rfl⟩

set_option maxHeartbeats 1600000 in
theorem specArrOut (H : Option Addr) (n ch : Nat) (x : Int) (w : World) (hx : ¬ (1 ≤ x ∧ x ≤ n)) :
    Calls Tryz.prog 173 #[.slice H n ch, .int .i64 x] w fun e w' => e = .returned (.tuple #[.slice (some ⟨w.heap.size, 0, none⟩) 0 0, .bool false]) ∧ Below w.heap.size w w' := by
  have Hb : Hid (∀ o, Below w.heap.size w (w.alloc o)) := fun o => (Below.refl _ _).alloc (Nat.le_refl _) _
  by_cases h : x < 1
  · go_enter Tryz.func173, Tryz.ntmps173
    go_wp2_with fail
    exact bodyPost_ret (v := .tuple #[.slice (some ⟨w.heap.size, 0, none⟩) 0 0, .bool false]) (by simp [results, Tryz.results173, go_sem]) rfl ⟨rfl, Hb.out _⟩
  · have h2 : (n : Int) < x := by omega
    have h1 : decide (x < 1) = false := by simp; omega
    go_enter Tryz.func173, Tryz.ntmps173
    go_wp2_with fail
    exact bodyPost_ret (v := .tuple #[.slice (some ⟨w.heap.size, 0, none⟩) 0 0, .bool false]) (by simp [results, Tryz.results173, go_sem]) rfl ⟨rfl, Hb.out _⟩

/-- an array of a machine: its slice, its cells -/
theorem Mac.arrD {B m d : Nat} {pr : Pr} {own : Nat → Nat → Tag} {w : World} {V : Tag → Value} {C : Tag → List Value} {s : StM} (M : Mac B m d pr own w V C s) (i : Nat) (hi : i < s.heap.length) :
    ∃ bh oh ch A c, V .hp = .slice (some ⟨bh, oh, none⟩) s.heap.length ch ∧ bh < w.heap.size ∧ w.cell? ⟨bh, oh + i, none⟩ = some (.slice A s.heap[i].length c) ∧ V (.arr i) = .slice A s.heap[i].length c ∧
      ∀ j (hj : j < s.heap[i].length), ∃ b o, A = some ⟨b, o, none⟩ ∧ b < w.heap.size ∧ w.cell? ⟨b, o + j, none⟩ = some (.int .i64 s.heap[i][j]) ∧ w.frozen? ⟨b, o + j, none⟩ = false := by
  obtain ⟨A, n, c, hv⟩ := (M.l.row (.arr i) hi).form
  have hl := ((M.l.row (.arr i) hi).len hv).1
  have hC := M.k.arr i hi
  rw [hC, ints_length] at hl
  simp only [szT, Nat.mul_one] at hl
  subst hl
  have hhp := M.k.hp
  obtain ⟨bh, oh, nh, ch, hvh, _, hlh, _, hlt, c0, _, _⟩ := M.l.at (t := .hp) trivial (k := i) (by rw [hhp]; simpa using hi)
  have hn : nh = s.heap.length := by rw [hhp] at hlh; simp [szT] at hlh; omega
  subst hn
  refine ⟨bh, oh, ch, A, c, hvh, hlt, ?_, hv, fun j hj => ?_⟩
  · rw [c0, ← hv]
    simp only [hhp, List.getElem_map, List.getElem_range]
  · obtain ⟨b, o, n2, c2, hv2, _, _, _, hlt2, k0, k1, _⟩ := M.l.at (t := .arr i) hi (k := j) (by rw [hC, ints_length]; exact hj)
    rw [hv] at hv2
    simp only [Value.slice.injEq] at hv2
    exact ⟨b, o, hv2.1, hlt2, by rw [k0]; simp only [hC]; simp [ints], k1⟩

set_option maxRecDepth 100000 in
set_option maxHeartbeats 1600000 in
theorem specDoUn {pr : Pr} (B m : Nat) (s : StM) (op a : Int) (U : Nat) (v : Value) (w : World) (hM : MacY pr B m w s) (hv : IRow U w v [a]) (hop : 24 ≤ op ∧ op ≤ 29) :
    Calls Tryz.prog 112 #[.int .i64 op, v, .pointer (some ⟨m, 1, none⟩)] w fun e w' => DoT pr B m s op [a] w w' e := by
  obtain ⟨own, V, C, M⟩ := hM
  have HR : Hid (MacR pr B m w.heap.size _ V C s w (w.alloc (.cells #[.int .i64 0, .int .i64 0] 166))) := macR_new M _
  have hal : Below w.heap.size w (w.alloc (.cells #[.int .i64 0, .int .i64 0] 166)) := (Below.refl _ _).alloc (Nat.le_refl _) _
  have hd : doM op [a] s.heap = ((unN op a, 0), s.heap) := by
    unfold doM
    simp only [List.getD_cons_zero]
    rw [if_neg (by omega), if_pos hop]
  have Hd : Hid (doM op [a] s.heap = ((unN op a, 0), s.heap)) := hd
  obtain ⟨A, c, rfl⟩ := hv.form
  obtain ⟨b0, o0, rfl, _, hl0, v0⟩ := hv.at 0 (by simp)
  simp only [List.getElem_cons_zero, Nat.add_zero] at v0
  rw [← hal.cell (by exact hl0)] at v0
  have hib : isBin op = false := by simp [isBin]; omega
  have hiu : isUn op = true := by simp [isUn]; exact hop
  have HB : Hid (∀ W, Calls Tryz.prog 169 #[.int .i64 op] W fun e w' => e = .returned (.bool false) ∧ w' = W) := fun W => by rw [← hib]; exact specBin op W
  have HU : Hid (∀ W, Calls Tryz.prog 170 #[.int .i64 op] W fun e w' => e = .returned (.bool true) ∧ w' = W) := fun W => by rw [← hiu]; exact specUn op W
  have HUn : Hid (∀ W, Calls Tryz.prog 172 #[.int .i64 op, .int .i64 a] W fun e w' => e = .returned (.agg #[.int .i64 (unN op a), .int .i64 0]) ∧ Below W.heap.size W w') := fun W => specUnary op a W
  clear M hal hd hv hib hiu
  go_enter Tryz.func112, Tryz.ntmps112
  go_wp2_with fail
  refine Calls.mono (HB.out _) ?_
  rintro e wx ⟨rfl, hwx⟩
  subst wx
  go_wp2_with fail
  refine Calls.mono (HU.out _) ?_
  rintro e wx ⟨rfl, hwx⟩
  subst wx
  obtain ⟨W, hW⟩ : ∃ W, W = w.alloc (.cells #[.int .i64 0, .int .i64 0] 166) := ⟨_, rfl⟩
  rw [← hW] at HR v0 ⊢
  clear hW
  obtain ⟨N, HN⟩ : ∃ N, Hid (N = unN op a) := ⟨_, rfl⟩
  rw [← HN.out] at HUn Hd
  go_wp2_with fail
  refine (HUn.out _).mono ?_
  rintro e wA ⟨rfl, hbA⟩
  have HRA : Hid (MacR _ _ _ _ _ _ _ _ _ _) := HR.out.below hbA
  obtain ⟨p0, p1, p2⟩ := HRA.out.put (.int .i64 N) (.int .i64 0)
  have HP : Hid (MacY _ _ _ _ _ ∧ Below _ _ _ ∧ VRow _ _ _) := ⟨p0, p1, p2⟩
  obtain ⟨r0, f0⟩ := HRA.out.row.2 0 (by simp)
  obtain ⟨r1, f1⟩ := HRA.out.row.2 1 (by simp)
  have rz := HRA.out.row.1
  simp only [List.getElem_cons_succ, List.getElem_cons_zero] at r0 r1
  clear p0 p1 p2
  go_wp2_with fail
  refine bodyPost_ret (v := .agg #[.int .i64 N, .int .i64 0]) (by simp [results, Tryz.results112, go_sem, HP.out.2.2.at0, HP.out.2.2.at1]) rfl ?_
  refine ⟨by rw [Hd.out], ?_, HP.out.2.1⟩
  rw [Hd.out]
  exact HP.out.1
end Go.Proofs.YtnknnncehcofnaaGreatDoor

namespace Go.Proofs.YtnknnncehcofnaaGreatDoor
open Go.RowKit

set_option maxRecDepth 100000 in
set_option maxHeartbeats 3200000 in
theorem specDoLen {pr : Pr} (B m : Nat) (s : StM) (a : Int) (U : Nat) (v : Value) (w : World) (hM : MacY pr B m w s) (hv : IRow U w v [a]) (hh : s.heap.length ≤ 1048576) :
    Calls Tryz.prog 112 #[.int .i64 37, v, .pointer (some ⟨m, 1, none⟩)] w fun e w' => DoT pr B m s 37 [a] w w' e := by
  obtain ⟨own, V, C, M⟩ := hM
  have HR : Hid (MacR pr B m w.heap.size (cutOwn w.heap.size own) V C s w (w.alloc (.cells #[.int .i64 0, .int .i64 0] 166))) := macR_new M _
  have hal : Below w.heap.size w (w.alloc (.cells #[.int .i64 0, .int .i64 0] 166)) := (Below.refl _ _).alloc (Nat.le_refl _) _
  have hd := doM_len s.heap a
  have hd2 : (doM 37 [a] s.heap).2 = s.heap := by
    unfold doM
    simp only [List.getD_cons_zero]
    rw [if_neg (by omega), if_neg (by omega), if_neg (by omega)]
    split <;> rfl
  have Hd : Hid ((doM 37 [a] s.heap).1 = (if ¬ (1 ≤ a ∧ a ≤ s.heap.length) then (0, 13) else (((s.heap.getD (a - 1).toNat []).length : Int), 0)) ∧ (doM 37 [a] s.heap).2 = s.heap) := ⟨hd, hd2⟩
  obtain ⟨A, c, rfl⟩ := hv.form
  obtain ⟨b0, o0, rfl, _, hl0, v0⟩ := hv.at 0 (by simp)
  simp only [List.getElem_cons_zero, Nat.add_zero] at v0
  rw [← hal.cell (by exact hl0)] at v0
  have HB : Hid (∀ W, Calls Tryz.prog 169 #[.int .i64 37] W fun e w' => e = .returned (.bool false) ∧ w' = W) := fun W => specBin 37 W
  have HU : Hid (∀ W, Calls Tryz.prog 170 #[.int .i64 37] W fun e w' => e = .returned (.bool false) ∧ w' = W) := fun W => specUn 37 W
  obtain ⟨H, hc, hhp⟩ := HR.out.mac.hpForm
  have m1 := HR.out.mac.zcell.2.1
  rw [hhp] at m1
  have Hhp : Hid (V .hp = .slice H s.heap.length hc) := hhp
  clear M hal hd hd2 hv hhp
  go_enter Tryz.func112, Tryz.ntmps112
  go_wp2_with fail
  refine Calls.mono (HB.out _) ?_
  rintro e wx ⟨rfl, hwx⟩
  subst wx
  go_wp2_with fail
  refine Calls.mono (HU.out _) ?_
  rintro e wx ⟨rfl, hwx⟩
  subst wx
  obtain ⟨W, hW⟩ : ∃ W, W = w.alloc (.cells #[.int .i64 0, .int .i64 0] 166) := ⟨_, rfl⟩
  rw [← hW] at HR v0 m1 ⊢
  clear hW
  have v0d : W.drew.cell? ⟨b0, o0, none⟩ = some (.int .i64 a) := v0
  have m1d : W.drew.cell? ⟨m, 1, none⟩ = some (.slice H s.heap.length hc) := m1
  by_cases hx : 1 ≤ a ∧ a ≤ s.heap.length
  · obtain ⟨i, rfl⟩ : ∃ i : Nat, a = (i : Int) + 1 := ⟨(a - 1).toNat, by omega⟩
    have hi : i < s.heap.length := by omega
    obtain ⟨bh, oh, ch, Aa, ca, e1, _, k0, _, _⟩ := (HR.out.mac.below (Below.refl W.heap.size W).drew).arrD i hi
    rw [Hhp.out] at e1
    simp only [Value.slice.injEq, true_and] at e1
    obtain ⟨rfl, rfl⟩ := e1
    have HA : Hid (Calls Tryz.prog 173 #[.slice (some ⟨bh, oh, none⟩) s.heap.length hc, .int .i64 ((i : Int) + 1)] W.drew fun e w' => e = .returned (.tuple #[.slice Aa s.heap[i].length ca, .bool true]) ∧ w' = W.drew) := specArrIn bh oh _ hc i Aa _ ca W.drew hi hh k0
    have he : (s.heap.getD ((i : Int) + 1 - 1).toNat []).length = s.heap[i].length := by rw [arr_at hi]
    have Hd3 : Hid ((doM 37 [(i : Int) + 1] s.heap).1 = ((s.heap[i].length : Int), 0)) := by rw [Hd.out.1, if_neg (by omega), he]; exact rfl
    obtain ⟨N, HN⟩ : ∃ N : Nat, Hid (N = s.heap[i].length) := ⟨s.heap[i].length, rfl⟩
    rw [← HN.out] at HA Hd3
    obtain ⟨p0, p1, p2⟩ := HR.out.put (.int .i64 (N : Int)) (.int .i64 0)
    have HP : Hid (MacY _ _ _ _ _ ∧ Below _ _ _ ∧ VRow _ _ _) := ⟨p0.below (Below.refl _ _).drew, p1.drew, p2.below (Below.refl _ _).drew⟩
    obtain ⟨r0, f0⟩ := HR.out.row.2 0 (by simp)
    obtain ⟨r1, f1⟩ := HR.out.row.2 1 (by simp)
    have rz := HR.out.row.1
    simp only [List.getElem_cons_succ, List.getElem_cons_zero] at r0 r1
    clear p0 p1 p2 k0 he
    go_upto_region 10 with fail
    go_region_held3 (fun w' => w'.cell? ⟨m, 1, none⟩ = some (.slice (some ⟨bh, oh, none⟩) s.heap.length hc) ∧ w'.cell? ⟨b0, o0, none⟩ = some (.int .i64 ((i : Int) + 1)))
      (first | (exact ⟨m1d, v0d⟩))
      (first | (go_at_call 173; refine Calls.mono HA.out ?_; rintro e wA ⟨rfl, hwA⟩; subst wA))
    all_goals
      go_wp2_with fail
      refine bodyPost_ret (v := .agg #[.int .i64 (N : Int), .int .i64 0]) (by simp [results, Tryz.results112, go_sem, HP.out.2.2.at0, HP.out.2.2.at1]) rfl ?_
      refine ⟨by rw [Hd3.out], ?_, HP.out.2.1⟩
      rw [Hd.out.2]
      exact HP.out.1
  · have HA : Hid (Calls Tryz.prog 173 #[.slice H s.heap.length hc, .int .i64 a] W.drew fun e w' => e = .returned (.tuple #[.slice (some ⟨W.drew.heap.size, 0, none⟩) 0 0, .bool false]) ∧ Below W.drew.heap.size W.drew w') := specArrOut H _ hc a W.drew hx
    have Hd3 : Hid ((doM 37 [a] s.heap).1 = (0, 13)) := by rw [Hd.out.1, if_pos hx]; exact rfl
    clear hx
    go_upto_region 10 with fail
    go_region_held3 (fun w' => w'.cell? ⟨m, 1, none⟩ = some (.slice H s.heap.length hc) ∧ w'.cell? ⟨b0, o0, none⟩ = some (.int .i64 a))
      (first | (exact ⟨m1d, v0d⟩) | (exact HY1.out))
      (first | (go_at_call 173; refine Calls.mono HA.out ?_; rintro e wA ⟨rfl, hbA⟩
                have hbA' : Below W.heap.size W wA := (Below.refl W.heap.size W).drew.trans hbA
                have HY1 : Hid (wA.cell? ⟨m, 1, none⟩ = some (.slice H s.heap.length hc) ∧ wA.cell? ⟨b0, o0, none⟩ = some (.int .i64 a)) := ⟨by rw [hbA'.cell (by exact HR.out.mac.lt)]; exact m1, by rw [hbA'.cell (by exact Nat.lt_trans hl0 HR.out.row.1)]; exact v0⟩
                have HRA : Hid (MacR _ _ _ _ _ _ _ _ _ _) := HR.out.below hbA'
                obtain ⟨p0, p1, p2⟩ := HRA.out.put (.int .i64 0) (.int .i64 13)
                have HP : Hid (MacY _ _ _ _ _ ∧ Below _ _ _ ∧ VRow _ _ _) := ⟨p0, p1, p2⟩
                obtain ⟨r0, f0⟩ := HRA.out.row.2 0 (by simp)
                obtain ⟨r1, f1⟩ := HRA.out.row.2 1 (by simp)
                have rz := HRA.out.row.1
                simp only [List.getElem_cons_succ, List.getElem_cons_zero] at r0 r1
                clear p0 p1 p2))
    all_goals
      go_wp2_with fail
      refine bodyPost_ret (v := .agg #[.int .i64 0, .int .i64 13]) (by simp [results, Tryz.results112, go_sem, HP.out.2.2.at0, HP.out.2.2.at1]) rfl ?_
      refine ⟨by rw [Hd3.out], ?_, HP.out.2.1⟩
      rw [Hd.out.2]
      exact HP.out.1
end Go.Proofs.YtnknnncehcofnaaGreatDoor
