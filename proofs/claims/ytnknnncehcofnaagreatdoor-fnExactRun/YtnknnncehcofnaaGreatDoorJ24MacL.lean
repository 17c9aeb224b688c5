/- Doings of arrays: length, set. Doings of arrays: set, makeArray. Doings of arrays: makeArray. impl.newFrame; spec.l06Frame. -/
import Derived.Test.YtnknnncehcofnaaGreatDoorJ23MacF
import Derived.Test.YtnknnncehcofnaaGreatDoorJ16LayW
namespace Go.Proofs.YtnknnncehcofnaaGreatDoor
open Go.RowKit

theorem doM_len (hp : List (List Int)) (a : Int) : (doM 37 [a] hp).1 = if ¬ (1 ≤ a ∧ a ≤ hp.length) then (0, 13) else (((hp.getD (a - 1).toNat []).length : Int), 0) := by
  unfold doM
  simp only [List.getD_cons_zero]
  rw [if_neg (by omega), if_neg (by omega), if_neg (by omega)]
  split
  · rfl
  rw [if_pos trivial]

set_option maxRecDepth 100000 in
set_option maxHeartbeats 1600000 in
theorem implLenA {B m : Nat} {pr : Pr} {own : Nat → Nat → Tag} {w : World} {V : Tag → Value} {C : Tag → List Value} {s : StM} (M : Mac B m 1 pr own w V C s) (a : Int) (hs : s.heap.length ≤ 1048576) (ha : ∀ x ∈ s.heap, x.length ≤ 1048576) :
    Calls Tryz.prog 188 #[.pointer (some ⟨m, 1, none⟩), .int .i64 a] w fun e w' => ValTold (doM 37 [a] s.heap).1.1 (doM 37 [a] s.heap).1.2 w w' e := by
  obtain ⟨x, hx⟩ : ∃ x, x = (doM 37 [a] s.heap).1 := ⟨_, rfl⟩
  rw [← hx]
  rw [doM_len] at hx
  obtain ⟨W, hW⟩ : ∃ W, W = w.alloc (.cells #[.int .i64 0, .int .i64 0] 166) := ⟨_, rfl⟩
  have hal : Below w.heap.size w W := by rw [hW]; exact (Below.refl _ _).alloc (Nat.le_refl _) _
  have Hal : Hid (Below w.heap.size w W) := hal
  have X := vrow_new w #[.int .i64 0, .int .i64 0] 166
  rw [← hW] at X
  have x0 := X.1
  obtain ⟨x1, x2⟩ := X.2 0 (by simp)
  obtain ⟨x3, x4⟩ := X.2 1 (by simp)
  simp at x1 x3
  by_cases h1 : 1 ≤ a ∧ a ≤ s.heap.length
  · obtain ⟨i, hi⟩ := Int.eq_ofNat_of_zero_le (show 0 ≤ a - 1 by omega)
    have hai : a = (i : Int) + 1 := by omega
    subst hai
    have hil : i < s.heap.length := by omega
    have hla := ha s.heap[i] (List.getElem_mem hil)
    rw [if_neg (by omega), arr_at hil] at hx
    subst hx
    obtain ⟨bh, oh, ch, Aa, ca, A⟩ := (M.below hal).arrAt i hil hla
    have HA : Hid (Calls Tryz.prog 217 #[.pointer (some ⟨m, 1, none⟩), .int .i64 ((i : Int) + 1)] W fun e w' => e = .returned (.tuple #[.slice Aa s.heap[i].length ca, .int .i64 0]) ∧ w' = W) := implArrIn m s.heap.length i bh oh ch _ W A.c2 hil hs A.cell
    clear A M X hal h1
    obtain ⟨n, hn⟩ : ∃ n, n = s.heap[i].length := ⟨_, rfl⟩
    rw [← hn] at HA hla ⊢
    clear hn
    go_enter Tryz.func188, Tryz.ntmps188
    go_wp2_with fail
    rw [← hW]
    clear hW
    refine HA.out.mono ?_
    rintro e w1 ⟨rfl, h⟩
    subst w1
    go_wp2_with fail
    exact bodyPost_ret (v := .agg #[.int .i64 (n : Int), .int .i64 0]) (by simp [results, Tryz.results188, go_sem, x1, x3]) rfl ⟨rfl, (Hal.out.setCell (by simp) _).setCell (by simp) _⟩
  · rw [if_pos h1] at hx
    subst hx
    obtain ⟨A, c, hv⟩ := (M.below hal).hpForm
    have c2 := (M.below hal).mcell.2.1
    rw [hv] at c2
    have HA : Hid (Calls Tryz.prog 217 #[.pointer (some ⟨m, 1, none⟩), .int .i64 a] W fun e w' => e = .returned (.tuple #[.slice none 0 0, .int .i64 13]) ∧ w' = W) := implArrOut m s.heap.length c A a W c2 h1
    clear M X hal h1 hv c2
    go_enter Tryz.func188, Tryz.ntmps188
    go_wp2_with fail
    rw [← hW]
    clear hW
    refine HA.out.mono ?_
    rintro e w1 ⟨rfl, h⟩
    subst w1
    go_wp2_with fail
    exact bodyPost_ret (v := .agg #[.int .i64 0, .int .i64 13]) (by simp [results, Tryz.results188, go_sem, x1, x3]) rfl ⟨rfl, (Hal.out.setCell (by simp) _).setCell (by simp) _⟩

set_option maxRecDepth 100000 in
set_option maxHeartbeats 3200000 in
theorem doLen (B m : Nat) (vp : PV) (s : StM) (low : List FrM) (f : FrM) (st : List Int) (a op x : Int) (w : World) (hM : MacI B m vp w s) (hs : s.frames = low ++ [f]) (hst : f.stack = st ++ [a]) (hk : f.stack.length ≤ 1048575) (hl : low.length ≤ 1048575) (hh : s.heap.length ≤ 1048576) (ha : ∀ x ∈ s.heap, x.length ≤ 1048576) :
    Doing 134 B m vp op x (if (doM 37 [a] s.heap).1.2 = 0 then onTop s low ⟨f.func, f.pc, f.locals, st ++ [(doM 37 [a] s.heap).1.1]⟩ else onTop s low ⟨f.func, f.pc, f.locals, st⟩) (doM 37 [a] s.heap).1.2 w := by
  have hk' : st.length ≤ 1048575 := by rw [hst] at hk; simp at hk; omega
  have HG0 : Hid (∀ own V C w1, Mac B m 1 (prOf vp) own w1 V C (onTop s low ⟨f.func, f.pc, f.locals, st⟩) → Calls Tryz.prog 188 #[.pointer (some ⟨m, 1, none⟩), .int .i64 a] w1 fun e w' => ValTold (doM 37 [a] s.heap).1.1 (doM 37 [a] s.heap).1.2 w1 w' e) := fun own V C w1 M1 => implLenA M1 a hh ha
  have HPV : Hid (∀ w2, MacI B m vp w2 (onTop s low ⟨f.func, f.pc, f.locals, st⟩) → Calls Tryz.prog 184 #[.pointer (some ⟨m, 0, none⟩), .agg #[.int .i64 (doM 37 [a] s.heap).1.1, .int .i64 (doM 37 [a] s.heap).1.2]] w2 fun e w' => MacTold B m vp (if (doM 37 [a] s.heap).1.2 = 0 then onTop s low ⟨f.func, f.pc, f.locals, st ++ [(doM 37 [a] s.heap).1.1]⟩ else onTop s low ⟨f.func, f.pc, f.locals, st⟩) (.int .i64 (doM 37 [a] s.heap).1.2) w2 w' e) := fun w2 h2 => implPutValue B m vp (onTop s low ⟨f.func, f.pc, f.locals, st⟩) low ⟨f.func, f.pc, f.locals, st⟩ _ _ w2 h2 rfl hk' hl
  obtain ⟨s', hs'⟩ : ∃ s', s' = if (doM 37 [a] s.heap).1.2 = 0 then onTop s low ⟨f.func, f.pc, f.locals, st ++ [(doM 37 [a] s.heap).1.1]⟩ else onTop s low ⟨f.func, f.pc, f.locals, st⟩ := ⟨_, rfl⟩
  rw [← hs'] at HPV ⊢
  clear hs'
  generalize (doM 37 [a] s.heap).1.2 = tr at HPV HG0 ⊢
  generalize (doM 37 [a] s.heap).1.1 = nn at HPV HG0
  obtain ⟨own, V, C, W, hW, M, ho, hB, hb⟩ := hM.enter op x
  have hm := M.lt
  have HT : Hid (Calls Tryz.prog 181 #[.pointer (some ⟨m, 0, none⟩), .int .i64 1] W.drew fun e w1 => ∃ b0 o0, e = .returned (.slice (some ⟨b0, o0, none⟩) 1 1) ∧ (b0 < w1.heap.size ∧ m < w1.heap.size) ∧ w1.cell? ⟨b0, o0, none⟩ = some (.int .i64 a) ∧ Hid (Calls Tryz.prog 188 #[.pointer (some ⟨m, 1, none⟩), .int .i64 a] w1 fun e w' => ValTold nn tr w1 w' e) ∧
      Hid (∀ w2, Below w1.heap.size w1 w2 → MacI B m vp w2 (onTop s low ⟨f.func, f.pc, f.locals, st⟩) ∧ Below B w w2)) := by
    refine Calls.mono (implTake B m vp own V C s low f st [a] W.drew (M.below (Below.refl _ _).drew) hs hst (by omega) (by omega)) ?_
    rintro e w1 ⟨At, V2, C2, rfl, M1, hr, h2, hsp, -⟩
    obtain ⟨b0, o0, rfl, hlt, r0⟩ := taken1 hr
    have h2' : Below B W w1 := (Below.refl _ _).drew.trans h2
    exact ⟨b0, o0, rfl, ⟨hlt, M1.lt⟩, r0, HG0.out _ _ _ _ M1, fun w2 hb2 => ⟨⟨_, _, _, M1.below hb2⟩, (hb.trans h2').trans (hb2.mono (Nat.le_of_lt (Nat.lt_of_le_of_lt M1.base M1.lt)))⟩⟩
  clear hM hs hst M hB hb hk ho HG0
  unfold Doing
  go_enter Tryz.func134, Tryz.ntmps134
  go_wp2_with fail
  rw [← hW]
  clear hW
  go_region_with (first
    | (go_at_call 181; refine HT.out.mono ?_; rintro e w1 ⟨b0, o0, rfl, ⟨hlt, hm1⟩, r0, HG, HM1⟩)
    | (go_at_call 188; refine Calls.mono (R := fun e w' => ValTold nn tr w1 w' e) HG.out ?_; rintro e w2 ⟨rfl, hb2⟩)
    | (go_at_call 184; refine Calls.mono (R := fun e w' => MacTold B m vp s' (.int .i64 tr) w2 w' e) (HPV.out w2 (HM1.out w2 hb2).1) ?_; rintro e w3 ⟨rfl, h1, h2⟩
       have H3 : Hid (MacI B m vp w3 s' ∧ Below B w w3) := ⟨h1, (HM1.out w2 hb2).2.trans h2⟩
       clear h1 h2))
  all_goals
    go_wp2_with fail
    go_ret
    exact ⟨rfl, H3.out.1, H3.out.2⟩

/-- what a set leaves -/
theorem doM_set (hp : List (List Int)) (a b c : Int) : doM 36 [a, b, c] hp = if ¬ (1 ≤ a ∧ a ≤ hp.length) then ((0, 13), hp) else if ¬ (0 ≤ b ∧ b < (hp.getD (a - 1).toNat []).length) then ((0, 12), hp) else ((0, 0), hp.set (a - 1).toNat ((hp.getD (a - 1).toNat []).set b.toNat c)) := by
  unfold doM
  simp only [List.getD_cons_zero, List.getD_cons_succ]
  rw [if_neg (by omega), if_neg (by omega), if_neg (by omega)]
  split
  · rfl
  rw [if_neg (by omega)]
  split
  · rfl
  rw [if_pos trivial]

set_option maxRecDepth 100000 in
set_option maxHeartbeats 1600000 in
theorem implSetN (B m : Nat) (vp : PV) (s : StM) (a b c : Int) (w : World) (hM : MacI B m vp w s) (hs : s.heap.length ≤ 1048576) (ha : ∀ x ∈ s.heap, x.length ≤ 1048576) :
    Calls Tryz.prog 187 #[.pointer (some ⟨m, 1, none⟩), .int .i64 a, .int .i64 b, .int .i64 c] w fun e w' => MacTold B m vp { s with heap := (doM 36 [a, b, c] s.heap).2 } (.int .i64 (doM 36 [a, b, c] s.heap).1.2) w w' e := by
  obtain ⟨x, hx⟩ : ∃ x, x = doM 36 [a, b, c] s.heap := ⟨_, rfl⟩
  rw [← hx]
  have Hx : Hid (x = doM 36 [a, b, c] s.heap) := hx
  clear hx
  obtain ⟨own, V, C, M⟩ := hM
  have HC : Hid (Calls Tryz.prog 216 #[.pointer (some ⟨m, 1, none⟩), .int .i64 a, .int .i64 b] w fun e w' => CellTold s.heap V a b w w' e) := implCell M a b hs ha
  have HM : Hid (Mac B m 1 (prOf vp) own w V C s) := M
  clear M
  go_enter Tryz.func187, Tryz.ntmps187
  go_wp2_with fail
  refine Calls.mono (R := fun e w' => CellTold s.heap V a b w w' e) HC.out ?_
  rintro e w1 ⟨v, t, rfl, hc, h⟩
  subst w1
  cases hc with
  | noArr h1 =>
    obtain rfl : x = ((0, 13), s.heap) := by rw [Hx.out, doM_set, if_pos h1]
    go_wp2_with fail
    go_ret
    exact ⟨rfl, ⟨_, _, _, HM.out⟩, Below.refl _ _⟩
  | noAt i h h1 h2 =>
    obtain rfl : x = ((0, 12), s.heap) := by rw [Hx.out, doM_set, h1, arr_at h, if_neg (by omega), if_pos h2]
    go_wp2_with fail
    go_ret
    exact ⟨rfl, ⟨_, _, _, HM.out⟩, Below.refl _ _⟩
  | «at» i j h hj ba oa ca h1 h2 h3 =>
    obtain rfl : x = ((0, 0), s.heap.set i (s.heap[i].set j c)) := by
      rw [Hx.out, doM_set, h1, h2, arr_at h, if_neg (by omega), if_neg (by omega), show ((i : Int) + 1 - 1).toNat = i by omega]
      rfl
    obtain ⟨C3, M3, hb3⟩ := HM.out.setArr i h j hj c h3
    have H3 : Hid (MacI B m vp (w.setCell ⟨ba, oa + j, none⟩ (.int .i64 c)) { s with heap := s.heap.set i (s.heap[i].set j c) } ∧ Below B w (w.setCell ⟨ba, oa + j, none⟩ (.int .i64 c))) := ⟨⟨_, _, _, M3⟩, hb3⟩
    obtain ⟨b', off', n', cap', hv', _, _, _, hlt, c0, f0, _⟩ := HM.out.l.at (t := .arr i) h (k := j) (by rw [HM.out.k.arr i h, ints_length]; exact hj)
    rw [h3] at hv'
    simp only [Value.slice.injEq, Option.some.injEq, Addr.mk.injEq, and_true] at hv'
    obtain ⟨⟨rfl, rfl⟩, _⟩ := hv'
    clear M3 hb3 h3
    go_wp2_with fail
    go_ret
    exact ⟨rfl, H3.out.1, H3.out.2⟩
end Go.Proofs.YtnknnncehcofnaaGreatDoor

namespace Go.Proofs.YtnknnncehcofnaaGreatDoor
open Go.RowKit

theorem taken3 {B : Nat} {w : World} {At : Option Addr} {n c : Nat} {x y z : Int} (h : IRow B w (.slice At n c) [x, y, z]) : ∃ b o, At = some ⟨b, o, none⟩ ∧ b < w.heap.size ∧ w.cell? ⟨b, o, none⟩ = some (.int .i64 x) ∧ w.cell? ⟨b, o + 1, none⟩ = some (.int .i64 y) ∧ w.cell? ⟨b, o + 2, none⟩ = some (.int .i64 z) := by
  obtain ⟨b, o, rfl, -, hlt, r0⟩ := h.at 0 (by simp)
  obtain ⟨b', o', e, -, -, r1⟩ := h.at 1 (by simp)
  simp only [Option.some.injEq, Addr.mk.injEq, and_true] at e
  obtain ⟨rfl, rfl⟩ := e
  obtain ⟨b', o', e, -, -, r2⟩ := h.at 2 (by simp)
  simp only [Option.some.injEq, Addr.mk.injEq, and_true] at e
  obtain ⟨rfl, rfl⟩ := e
  exact ⟨b, o, rfl, hlt, by simpa using r0, by simpa using r1, by simpa using r2⟩

set_option maxRecDepth 100000 in
set_option maxHeartbeats 3200000 in
theorem doSet (B m : Nat) (vp : PV) (s : StM) (low : List FrM) (f : FrM) (st : List Int) (a b c op x : Int) (w : World) (hM : MacI B m vp w s) (hs : s.frames = low ++ [f]) (hst : f.stack = st ++ [a, b, c]) (hk : f.stack.length ≤ 1048575) (hl : low.length ≤ 1048575) (hh : s.heap.length ≤ 1048576) (ha : ∀ x ∈ s.heap, x.length ≤ 1048576) :
    Doing 133 B m vp op x { (onTop s low ⟨f.func, f.pc, f.locals, st⟩) with heap := (doM 36 [a, b, c] s.heap).2 } (doM 36 [a, b, c] s.heap).1.2 w := by
  have HG0 : Hid (∀ w1, MacI B m vp w1 (onTop s low ⟨f.func, f.pc, f.locals, st⟩) → Calls Tryz.prog 187 #[.pointer (some ⟨m, 1, none⟩), .int .i64 a, .int .i64 b, .int .i64 c] w1 fun e w' => MacTold B m vp { (onTop s low ⟨f.func, f.pc, f.locals, st⟩) with heap := (doM 36 [a, b, c] s.heap).2 } (.int .i64 (doM 36 [a, b, c] s.heap).1.2) w1 w' e) := fun w1 h1 => implSetN B m vp (onTop s low ⟨f.func, f.pc, f.locals, st⟩) a b c w1 h1 hh ha
  obtain ⟨s', hs'⟩ : ∃ s', s' = { (onTop s low ⟨f.func, f.pc, f.locals, st⟩) with heap := (doM 36 [a, b, c] s.heap).2 } := ⟨_, rfl⟩
  rw [← hs'] at HG0 ⊢
  clear hs'
  generalize (doM 36 [a, b, c] s.heap).1.2 = tr at HG0 ⊢
  obtain ⟨own, V, C, W, hW, M, ho, hB, hb⟩ := hM.enter op x
  have Hb : Hid (Below B w W) := hb
  have HP : Hid (Calls Tryz.prog 181 #[.pointer (some ⟨m, 0, none⟩), .int .i64 3] W fun e w' => TakeTold B m vp own (onTop s low ⟨f.func, f.pc, f.locals, st⟩) [a, b, c] W w' e) := implTake B m vp own V C s low f st [a, b, c] W M hs hst (by omega) (by omega)
  clear hM hs hst M hB hb hk ho
  unfold Doing
  go_enter Tryz.func133, Tryz.ntmps133
  go_wp2_with fail
  rw [← hW]
  clear hW
  refine Calls.mono (R := fun e w' => TakeTold B m vp own (onTop s low ⟨f.func, f.pc, f.locals, st⟩) [a, b, c] W w' e) HP.out ?_
  rintro e w1 ⟨At, V2, C2, rfl, M1, hr, h2, hsp, -⟩
  obtain ⟨b0, o0, rfl, hlt, r0, r1, r2⟩ := taken3 hr
  have hm := M1.lt
  have HG : Hid (Calls Tryz.prog 187 #[.pointer (some ⟨m, 1, none⟩), .int .i64 a, .int .i64 b, .int .i64 c] w1.drew fun e w' => MacTold B m vp s' (.int .i64 tr) w1.drew w' e) := HG0.out _ ⟨_, _, _, M1.below (Below.refl _ _).drew⟩
  have Hb1 : Hid (Below B w w1) := Hb.out.trans h2
  clear M1 hr h2 hsp HP HG0
  go_wp2_with fail
  go_region_with (first
    | (go_at_call 187; refine Calls.mono (R := fun e w' => MacTold B m vp s' (.int .i64 tr) w1.drew w' e) HG.out ?_; rintro e w3 ⟨rfl, h1, h2⟩
       have H3 : Hid (MacI B m vp w3 s' ∧ Below B w w3) := ⟨h1, Hb1.out.trans ((Below.refl _ _).drew.trans h2)⟩
       clear h1 h2))
  all_goals
    go_wp2_with fail
    go_ret
    exact ⟨rfl, H3.out.1, H3.out.2⟩

theorem Tryz.infoIntsM : (Tryz.prog.info? 28).map (fun i => (i.zero, i.size, i.bytes)) = some (some (.slice none 0 0), 1, 24) := by kernel_rfl

/-- an array just made, its slice in a block of its own, is appended to the heap -/
theorem Mac.arrRun {B m d : Nat} {pr : Pr} {own : Nat → Nat → Tag} {w : World} {V : Tag → Value} {C : Tag → List Value} {s : StM} (M : Mac B m d pr own w V C s) (hk : s.heap.length ≤ 1048575) (n : Nat) (Z : Array Value) (hZ : Z.toList = ints (List.replicate n 0)) (e1 e2 ty : TypeId) :
    ∃ A c, V .hp = .slice A s.heap.length c ∧ ∃ b1 off1 cap1 w1, (Builtin.append_ #[38, 38] ty #[.slice A s.heap.length c, .slice (some ⟨w.heap.size + 1, 0, none⟩) 1 1]).run Tryz.prog ((w.alloc (.cells Z e1)).alloc (.cells #[.slice (some ⟨w.heap.size, 0, none⟩) n n] e2)) = .ok (.slice (some ⟨b1, off1, none⟩) (s.heap.length + 1) cap1) w1 ∧
      ((∃ u, w1.cell? ⟨m, d + 1, none⟩ = some u) ∧ w1.frozen? ⟨m, d + 1, none⟩ = false ∧ m < w1.heap.size) ∧
      ∃ own2 V2 C2, Mac B m d pr own2 (w1.setCell ⟨m, d + 1, none⟩ (.slice (some ⟨b1, off1, none⟩) (s.heap.length + 1) cap1)) V2 C2 { s with heap := s.heap ++ [List.replicate n 0] } ∧ Below B w (w1.setCell ⟨m, d + 1, none⟩ (.slice (some ⟨b1, off1, none⟩) (s.heap.length + 1) cap1)) ∧ ∀ g, g < w.heap.size → (∀ j, own g j = .no) → (∀ j, own2 g j = .no) ∧ ∀ j, w1.cell? ⟨g, j, none⟩ = w.cell? ⟨g, j, none⟩ ∧ w1.frozen? ⟨g, j, none⟩ = w.frozen? ⟨g, j, none⟩ := by
  obtain ⟨A, c, hv⟩ := M.hpForm
  obtain ⟨w', hw'⟩ : ∃ w', w' = (w.alloc (.cells Z e1)).alloc (.cells #[.slice (some ⟨w.heap.size, 0, none⟩) n n] e2) := ⟨_, rfl⟩
  rw [← hw']
  have hB : B ≤ w.heap.size := Nat.le_of_lt (Nat.lt_of_le_of_lt M.base M.lt)
  have hbel : Below w.heap.size w w' := by rw [hw']; exact ((Below.refl _ _).alloc (Nat.le_refl _) _).alloc (by simp) _
  have hZl : Z.size = n := by rw [← Array.length_toList, hZ, ints_length]; simp
  have hbA : Below (w.alloc (.cells Z e1)).heap.size (w.alloc (.cells Z e1)) w' := by rw [hw']; exact (Below.refl _ _).alloc (Nat.le_refl _) _
  have hlt0 : w.heap.size < w'.heap.size := by rw [hw']; simp; omega
  have hc0 : ∀ j, w'.cell? ⟨w.heap.size, j, none⟩ = Z[j]? ∧ w'.frozen? ⟨w.heap.size, j, none⟩ = false := fun j => by
    rw [hbA.cell (by simp), hbA.frozen (by simp)]
    exact ⟨World.cell?_alloc_mark _ _ _ _ _, World.frozen?_alloc_at _ _ _ _ rfl⟩
  have hnews : w'.cell? ⟨w.heap.size + 1, 0, none⟩ = some (.slice (some ⟨w.heap.size, 0, none⟩) n n) := by
    have := (box_new (w.alloc (.cells Z e1)) #[.slice (some ⟨w.heap.size, 0, none⟩) n n] e2).at0
    rw [← hw'] at this
    simpa using this
  -- the array as a list of its own
  have hO2 : OwnL (fun _ _ => Tag.arr s.heap.length) w.heap.size w' (fun t => t = .arr s.heap.length) (fun _ => .slice (some ⟨w.heap.size, 0, none⟩) n n) (fun _ => ints (List.replicate n 0)) := by
    have hlen : (ints (List.replicate n 0)).length = n := by rw [ints_length]; simp
    refine ⟨fun t ht => ?_, fun t ht => ?_⟩
    · subst ht
      refine ⟨_, n, n, rfl, Nat.le_refl _, by rw [hlen]; simp [szT], fun j hj => ⟨w.heap.size, 0, rfl, Nat.le_refl _, hlt0, ?_⟩⟩
      rw [Nat.zero_add, (hc0 j).1, ← Array.getElem?_toList, hZ]
      exact List.getElem?_eq_getElem hj
    · subst ht
      refine ⟨_, n, n, rfl, Nat.le_refl _, fun j hj => ⟨w.heap.size, 0, rfl, Nat.le_refl _, hlt0, ?_, ?_, rfl⟩⟩
      · rw [Nat.zero_add, (hc0 j).1, Array.getElem?_eq_getElem (by rw [hZl]; simpa [szT] using hj)]; rfl
      · rw [Nat.zero_add]; exact (hc0 j).2
  have hJ := M.l.join (L' := liveA s) (V' := upd V (.arr s.heap.length) (.slice (some ⟨w.heap.size, 0, none⟩) n n)) (C' := upd C (.arr s.heap.length) (ints (List.replicate n 0))) hO2 (Nat.le_refl _) hbel hB (fun t ht => by
    rcases ht with rfl | ht
    · exact .inl ⟨rfl, upd_at _ _ _, upd_at _ _ _⟩
    · by_cases e : t = .arr s.heap.length
      · subst e; exact .inl ⟨rfl, upd_at _ _ _, upd_at _ _ _⟩
      · exact .inr ⟨ht, upd_far _ _ e, upd_far _ _ e⟩)
  obtain ⟨i0, hii, hz0, hz1, hz2⟩ := info_parts Tryz.infoIntsM
  have hsrc : Src Tryz.prog i0.size 38 (.slice (some ⟨w.heap.size + 1, 0, none⟩) 1 1) 1 [.slice (some ⟨w.heap.size, 0, none⟩) n n] w' := by
    rw [hz1]
    refine Src.ofSlice w' Tryz.underlying38 ⟨w.heap.size + 1, 0, none⟩ 1 1 _ (by simp) (fun j u hj => ?_) (fun u hu => ?_)
    · obtain ⟨h1, h2⟩ := List.getElem?_eq_some_iff.1 hj
      have hj0 : j = 0 := by simpa using h1
      subst hj0
      rw [← h2]
      exact hnews
    · simp at hu
      subst hu
      rfl
  have hvh : upd V (.arr s.heap.length) (.slice (some ⟨w.heap.size, 0, none⟩) n n) .hp = .slice A s.heap.length c := by rw [upd_far _ _ (by simp)]; exact hv
  obtain ⟨b1, off1, cap1, w1, own1, hrun, O, D, _⟩ := hJ.append (Nat.le_trans hB hbel.size) (t := .hp) (.inr trivial) 38 28 ty 38 i0 (.slice none 0 0) Tryz.underlying38 hii hz0 (by rw [hz1]; rfl) rfl (by rw [hz2]; omega) hvh (.slice (some ⟨w.heap.size + 1, 0, none⟩) 1 1) 1 _ hsrc (by omega) (by omega)
  rw [hvh] at hrun
  rw [upd_far C _ (show Tag.hp ≠ .arr s.heap.length by simp)] at O
  have D' : DidT own own1 B .hp w w1 := (DidT.new (own2 := fun _ _ => Tag.arr s.heap.length) hbel (Nat.le_refl _) hB).trans D
  obtain ⟨V2, C2, M2, hb2⟩ := M.addArr (List.replicate n 0) _ _ D' O (by omega)
  obtain ⟨-, m2, m3, -⟩ := M.did D' (by simp)
  exact ⟨A, c, hv, b1, off1, cap1, w1, hrun, ⟨⟨_, (m3 1 (by omega)).1.trans rfl⟩, (m3 1 (by omega)).2, m2⟩, own1, V2, C2, M2, hb2, fun g hg hno => ⟨fun j => by rw [D'.same g j hg]; exact hno j, fun j => D'.cell g j hg (by rw [hno]; simp)⟩⟩

/-- a cell of a block that is no list's, nor the machine's, is written -/
theorem Mac.setFree {B m d : Nat} {pr : Pr} {own : Nat → Nat → Tag} {w : World} {V : Tag → Value} {C : Tag → List Value} {s : StM} (M : Mac B m d pr own w V C s) (g j : Nat) (u : Value) (hno : ∀ j, own g j = .no) (hg : g ≠ m) (hB : B ≤ g) (hnf : ∀ j, pr.fixed g j = none) : Mac B m d pr own (w.setCell ⟨g, j, none⟩ u) V C s := by
  have hw : Wrote B (fun b _ => b = g) w (w.setCell ⟨g, j, none⟩ u) := Wrote.set _ _ _ _ rfl hB
  exact ⟨M.l.wrote hw (fun b k hb t ht => by subst hb; rw [hno]; exact (live_ne_no ht).symm), M.k, M.free, M.base, by simpa using M.lt, fun q hq => ⟨by rw [hw.cell m _ (fun e => hg e.symm)]; exact (M.cs q hq).1, by rw [hw.thaw]; exact (M.cs q hq).2⟩, ⟨fun k hk => (hw.cell m _ (fun e => hg e.symm)).trans (M.pre.1 k hk), fun u hu => (hw.cell m _ (fun e => hg e.symm)).trans (M.pre.2.1 u hu), fun b j u hu => by
    obtain ⟨h1, h2, h3, h4, h5, h6⟩ := M.pre.2.2 b j u hu
    have hbg : b ≠ g := fun e => by subst e; rw [hnf] at hu; cases hu
    exact ⟨h1, h2, h3, by simpa using h4, (hw.cell b j hbg).trans h5, (hw.thaw b j).trans h6⟩⟩⟩

/-- a block that is not there yet is none of the fixed ones -/
theorem Mac.unfixed {B m d : Nat} {pr : Pr} {own : Nat → Nat → Tag} {w : World} {V : Tag → Value} {C : Tag → List Value} {s : StM} (M : Mac B m d pr own w V C s) (g : Nat) (hg : w.heap.size ≤ g) (j : Nat) : pr.fixed g j = none := by
  cases h : pr.fixed g j with
  | none => rfl
  | some u => have := (M.pre.2.2 g j u h).2.2.2.1; omega
end Go.Proofs.YtnknnncehcofnaaGreatDoor

namespace Go.Proofs.YtnknnncehcofnaaGreatDoor
open Go.RowKit

theorem doM_new (hp : List (List Int)) (a : Int) : doM 34 [a] hp = if hp.length < 30 ∧ 0 ≤ a ∧ a ≤ 50 then (((hp.length : Int) + 1, 0), hp ++ [List.replicate a.toNat 0]) else ((0, 14), hp) := by
  unfold doM
  simp only [List.getD_cons_zero]
  rw [if_neg (by omega), if_neg (by omega), if_pos trivial]

theorem made_ints (n : Nat) : (madeCells #[Value.int .i64 0] n).toList = ints (List.replicate n 0) := by
  apply List.ext_getElem
  · simp [madeCells, ints]
  · intro i h1 h2
    simp [madeCells, ints, Nat.mod_one]

def MadeTold (B m : Nat) (vp : PV) (s' : StM) (n t : Int) (w w' : World) (e : Ending) : Prop := e = .returned (.agg #[.int .i64 n, .int .i64 t]) ∧ MacI B m vp w' s' ∧ Below B w w'

set_option maxRecDepth 100000 in
set_option maxHeartbeats 3200000 in
theorem implNewA (B m : Nat) (vp : PV) (s : StM) (a : Int) (w : World) (hM : MacI B m vp w s) (hs : s.heap.length ≤ 1048575) :
    Calls Tryz.prog 185 #[.pointer (some ⟨m, 1, none⟩), .int .i64 a] w fun e w' => MadeTold B m vp { s with heap := (doM 34 [a] s.heap).2 } (doM 34 [a] s.heap).1.1 (doM 34 [a] s.heap).1.2 w w' e := by
  obtain ⟨x, hx⟩ : ∃ x, x = doM 34 [a] s.heap := ⟨_, rfl⟩
  rw [← hx]
  rw [doM_new] at hx
  have hB := hM.hB
  obtain ⟨own, V, C, M0⟩ := hM
  obtain ⟨W, hW⟩ : ∃ W, W = w.alloc (.cells #[.int .i64 0, .int .i64 0] 166) := ⟨_, rfl⟩
  have hal : Below w.heap.size w W := by rw [hW]; exact (Below.refl _ _).alloc (Nat.le_refl _) _
  have Hal : Hid (Below B w W) := hal.mono hB
  have hnf := M0.unfixed w.heap.size (Nat.le_refl _)
  have M := M0.cutOwn.below hal
  have X := vrow_new w #[.int .i64 0, .int .i64 0] 166
  rw [← hW] at X
  have x0 := X.1
  obtain ⟨x1, x2⟩ := X.2 0 (by simp)
  obtain ⟨x3, x4⟩ := X.2 1 (by simp)
  simp at x1 x3
  obtain ⟨A, c, hv⟩ := M.hpForm
  have c2 := M0.mcell.2.1
  rw [hv] at c2
  have hm := M0.lt
  have hno : ∀ j, cutOwn w.heap.size own w.heap.size j = .no := fun j => by show (if w.heap.size < w.heap.size then _ else _) = _; rw [if_neg (by omega)]
  have HM : Hid (Mac B m 1 (prOf vp) (cutOwn w.heap.size own) W V C s) := M
  by_cases h1 : s.heap.length < 30 ∧ 0 ≤ a ∧ a ≤ 50
  · rw [if_pos h1] at hx
    subst hx
    obtain ⟨h30', h2, h3⟩ := h1
    obtain ⟨k, rfl⟩ := Int.eq_ofNat_of_zero_le h2
    obtain ⟨i0, hii, hz0, hz1, hz2⟩ := info_parts Tryz.info64
    have hmk := fun (W : World) => run_makeSlice (P := Tryz.prog) W 28 2 i0 _ Tryz.underlying28 hii hz0 .i64 .i64 k k (by omega) (by omega) (by rw [hz1]; simp; omega) (by rw [hz2]; omega) (by omega)
    simp only [hz1, Int.toNat_natCast, Nat.mul_one] at hmk
    obtain ⟨A', c', hv', b1, off1, cap1, w1, hrun, ⟨⟨u, d0⟩, d1, d2⟩, own2, V2, C2, M2, hb2, hfree⟩ := (M.below (Below.refl _ _).drew).arrRun (by omega) k (madeCells #[Value.int .i64 0] k) (made_ints k) 2 28 38
    rw [hv] at hv'
    simp only [Value.slice.injEq] at hv'
    obtain ⟨rfl, -, rfl⟩ := hv'
    obtain ⟨f1, f2⟩ := hfree w.heap.size X.1 hno
    have eW : W.heap.size = w.heap.size + 1 := by rw [hW]; simp
    have hrun' : (Builtin.append_ #[38, 38] 38 #[.slice A s.heap.length c, .slice (some ⟨W.heap.size + 1, 0, none⟩) 1 1]).run Tryz.prog (((W.alloc (.cells (madeCells #[Value.int .i64 0] k) 2)).alloc (.cells #[.slice (some ⟨W.heap.size, 0, none⟩) k k] 28)).drew) = .ok (.slice (some ⟨b1, off1, none⟩) (s.heap.length + 1) cap1) w1 := hrun
    clear hrun
    rw [eW, hW] at hrun'
    replace f2 : ∀ j, w1.cell? ⟨w.heap.size, j, none⟩ = W.cell? ⟨w.heap.size, j, none⟩ ∧ w1.frozen? ⟨w.heap.size, j, none⟩ = W.frozen? ⟨w.heap.size, j, none⟩ := f2
    replace hb2 := (Below.refl B W).drew.trans hb2
    obtain ⟨y1, y2⟩ := f2 0
    obtain ⟨y3, y4⟩ := f2 1
    rw [x1] at y1
    rw [x2] at y2
    rw [x3] at y3
    rw [x4] at y4
    have hz : w.heap.size < w1.heap.size := Nat.lt_of_lt_of_le x0 (by have := hb2.size; simpa using this)
    have H4 : Hid (MacI B m vp (((w1.setCell ⟨m, 2, none⟩ (.slice (some ⟨b1, off1, none⟩) (s.heap.length + 1) cap1)).setCell ⟨w.heap.size, 0, none⟩ (.int .i64 ((s.heap.length : Int) + 1))).setCell ⟨w.heap.size, 1, none⟩ (.int .i64 0)) { s with heap := s.heap ++ [List.replicate k 0] } ∧ Below B w (((w1.setCell ⟨m, 2, none⟩ (.slice (some ⟨b1, off1, none⟩) (s.heap.length + 1) cap1)).setCell ⟨w.heap.size, 0, none⟩ (.int .i64 ((s.heap.length : Int) + 1))).setCell ⟨w.heap.size, 1, none⟩ (.int .i64 0))) :=
      ⟨⟨_, _, _, (M2.setFree w.heap.size 0 _ f1 (by omega) hB hnf).setFree w.heap.size 1 _ f1 (by omega) hB hnf⟩, ((Hal.out.trans hb2).setCell (by exact hB) _).setCell (by exact hB) _⟩
    have h30 : (s.heap.length : Int) < 30 := by omega
    clear HM M M0 X hal hno x0 x1 x2 x3 x4 hv M2 hb2 hfree f1 f2 hW eW
    simp only [Int.toNat_natCast]
    obtain ⟨n, hn⟩ : ∃ n, n = s.heap.length := ⟨_, rfl⟩
    rw [← hn] at c2 hs H4 hrun' h30 ⊢
    clear hn
    go_enter Tryz.func185, Tryz.ntmps185
    have c2b : ∀ o o' : Obj, ((w.alloc o).alloc o').cell? ⟨m, 2, none⟩ = some (.slice A n c) := fun o o' => by
      rw [World.cell?_alloc_past _ _ _ (by simp; omega), World.cell?_alloc_past _ _ _ (by exact hm)]; exact c2
    have c2a : ∀ o o' o'' : Obj, (((w.alloc o).alloc o').alloc o'').cell? ⟨m, 2, none⟩ = some (.slice A n c) := fun o o' o'' => by
      rw [World.cell?_alloc_past _ _ _ (by simp; omega)]; exact c2b o o'
    go_wp2_with fail
    go_region_law (refine step_append_run rfl (.tmp 24) (.tmp 27) 38 rfl (.slice A n c) (.slice (some ⟨w.heap.size + 1 + 1, 0, none⟩) 1 1) (by simp [Act.eval]) (by simp [Act.eval]) _ _ hrun' ?_)
    all_goals
      go_wp2_with fail
      exact bodyPost_ret (v := .agg #[.int .i64 ((n : Int) + 1), .int .i64 0]) (by simp [results, Tryz.results185, go_sem, y1, y3]) rfl ⟨rfl, H4.out.1, H4.out.2⟩
  · rw [if_neg h1] at hx
    subst hx
    have hal2 : Below w.heap.size w (w.alloc (.cells #[.int .i64 0, .int .i64 14] 166)) := (Below.refl _ _).alloc (Nat.le_refl _) _
    have H4 : Hid (MacI B m vp (w.alloc (.cells #[.int .i64 0, .int .i64 14] 166)) s ∧ Below B w (w.alloc (.cells #[.int .i64 0, .int .i64 14] 166))) := ⟨⟨_, _, _, M0.below hal2⟩, hal2.mono hB⟩
    clear HM M M0 X hal hno x0 x1 x2 x3 x4 hv hal2 hW
    obtain ⟨n, hn⟩ : ∃ n, n = s.heap.length := ⟨_, rfl⟩
    rw [← hn] at c2 hs h1
    clear hn
    by_cases ha : 30 ≤ n
    · have ha' : (30 : Int) ≤ n := by omega
      go_enter Tryz.func185, Tryz.ntmps185
      go_wp2_with fail
      exact bodyPost_ret (v := .agg #[.int .i64 0, .int .i64 14]) (by simp [results, Tryz.results185, go_sem]) rfl ⟨rfl, H4.out.1, H4.out.2⟩
    · have ha' : (n : Int) < 30 := by omega
      by_cases hb : 0 ≤ a
      · have hc : 50 < a := by omega
        go_enter Tryz.func185, Tryz.ntmps185
        go_wp2_with fail
        exact bodyPost_ret (v := .agg #[.int .i64 0, .int .i64 14]) (by simp [results, Tryz.results185, go_sem]) rfl ⟨rfl, H4.out.1, H4.out.2⟩
      · go_enter Tryz.func185, Tryz.ntmps185
        go_wp2_with fail
        exact bodyPost_ret (v := .agg #[.int .i64 0, .int .i64 14]) (by simp [results, Tryz.results185, go_sem]) rfl ⟨rfl, H4.out.1, H4.out.2⟩

set_option maxRecDepth 100000 in
set_option maxHeartbeats 3200000 in
theorem doNew (B m : Nat) (vp : PV) (s : StM) (low : List FrM) (f : FrM) (st : List Int) (a op x : Int) (w : World) (hM : MacI B m vp w s) (hs : s.frames = low ++ [f]) (hst : f.stack = st ++ [a]) (hk : f.stack.length ≤ 1048575) (hl : low.length ≤ 1048575) (hh : s.heap.length ≤ 1048575) :
    Doing 131 B m vp op x (if (doM 34 [a] s.heap).1.2 = 0 then { (onTop s low ⟨f.func, f.pc, f.locals, st ++ [(doM 34 [a] s.heap).1.1]⟩) with heap := (doM 34 [a] s.heap).2 } else { (onTop s low ⟨f.func, f.pc, f.locals, st⟩) with heap := (doM 34 [a] s.heap).2 }) (doM 34 [a] s.heap).1.2 w := by
  have hk' : st.length ≤ 1048575 := by rw [hst] at hk; simp at hk; omega
  have HG0 : Hid (∀ w1, MacI B m vp w1 (onTop s low ⟨f.func, f.pc, f.locals, st⟩) → Calls Tryz.prog 185 #[.pointer (some ⟨m, 1, none⟩), .int .i64 a] w1 fun e w' => MadeTold B m vp { (onTop s low ⟨f.func, f.pc, f.locals, st⟩) with heap := (doM 34 [a] s.heap).2 } (doM 34 [a] s.heap).1.1 (doM 34 [a] s.heap).1.2 w1 w' e) := fun w1 h1 => implNewA B m vp (onTop s low ⟨f.func, f.pc, f.locals, st⟩) a w1 h1 hh
  have HPV : Hid (∀ w2, MacI B m vp w2 { (onTop s low ⟨f.func, f.pc, f.locals, st⟩) with heap := (doM 34 [a] s.heap).2 } → Calls Tryz.prog 184 #[.pointer (some ⟨m, 0, none⟩), .agg #[.int .i64 (doM 34 [a] s.heap).1.1, .int .i64 (doM 34 [a] s.heap).1.2]] w2 fun e w' => MacTold B m vp (if (doM 34 [a] s.heap).1.2 = 0 then { (onTop s low ⟨f.func, f.pc, f.locals, st ++ [(doM 34 [a] s.heap).1.1]⟩) with heap := (doM 34 [a] s.heap).2 } else { (onTop s low ⟨f.func, f.pc, f.locals, st⟩) with heap := (doM 34 [a] s.heap).2 }) (.int .i64 (doM 34 [a] s.heap).1.2) w2 w' e) := fun w2 h2 => implPutValue B m vp { (onTop s low ⟨f.func, f.pc, f.locals, st⟩) with heap := (doM 34 [a] s.heap).2 } low ⟨f.func, f.pc, f.locals, st⟩ _ _ w2 h2 rfl hk' hl
  obtain ⟨s', hs'⟩ : ∃ s', s' = if (doM 34 [a] s.heap).1.2 = 0 then { (onTop s low ⟨f.func, f.pc, f.locals, st ++ [(doM 34 [a] s.heap).1.1]⟩) with heap := (doM 34 [a] s.heap).2 } else { (onTop s low ⟨f.func, f.pc, f.locals, st⟩) with heap := (doM 34 [a] s.heap).2 } := ⟨_, rfl⟩
  rw [← hs'] at HPV ⊢
  clear hs'
  obtain ⟨s1, hs1⟩ : ∃ s1, s1 = { (onTop s low ⟨f.func, f.pc, f.locals, st⟩) with heap := (doM 34 [a] s.heap).2 } := ⟨_, rfl⟩
  rw [← hs1] at HPV HG0
  clear hs1
  generalize (doM 34 [a] s.heap).1.2 = tr at HPV HG0 ⊢
  generalize (doM 34 [a] s.heap).1.1 = nn at HPV HG0
  obtain ⟨own, V, C, W, hW, M, ho, hB, hb⟩ := hM.enter op x
  have hm := M.lt
  have HT : Hid (Calls Tryz.prog 181 #[.pointer (some ⟨m, 0, none⟩), .int .i64 1] W.drew fun e w1 => ∃ b0 o0, e = .returned (.slice (some ⟨b0, o0, none⟩) 1 1) ∧ (b0 < w1.heap.size ∧ m < w1.heap.size) ∧ w1.cell? ⟨b0, o0, none⟩ = some (.int .i64 a) ∧ Hid (Calls Tryz.prog 185 #[.pointer (some ⟨m, 1, none⟩), .int .i64 a] w1 fun e w' => MadeTold B m vp s1 nn tr w1 w' e) ∧ Hid (Below B w w1)) := by
    refine Calls.mono (implTake B m vp own V C s low f st [a] W.drew (M.below (Below.refl _ _).drew) hs hst (by omega) (by omega)) ?_
    rintro e w1 ⟨At, V2, C2, rfl, M1, hr, h2, hsp, -⟩
    obtain ⟨b0, o0, rfl, hlt, r0⟩ := taken1 hr
    exact ⟨b0, o0, rfl, ⟨hlt, M1.lt⟩, r0, HG0.out _ ⟨_, _, _, M1⟩, hb.trans ((Below.refl _ _).drew.trans h2)⟩
  clear hM hs hst M hB hb hk ho HG0
  unfold Doing
  go_enter Tryz.func131, Tryz.ntmps131
  go_wp2_with fail
  rw [← hW]
  clear hW
  go_region_with (first
    | (go_at_call 181; refine HT.out.mono ?_; rintro e w1 ⟨b0, o0, rfl, ⟨hlt, hm1⟩, r0, HG, Hb1⟩)
    | (go_at_call 185; refine Calls.mono (R := fun e w' => MadeTold B m vp s1 nn tr w1 w' e) HG.out ?_; rintro e w2 ⟨rfl, h1, h2⟩
       have H2 : Hid (MacI B m vp w2 s1 ∧ Below B w w2) := ⟨h1, Hb1.out.trans h2⟩
       clear h1 h2)
    | (go_at_call 184; refine Calls.mono (R := fun e w' => MacTold B m vp s' (.int .i64 tr) w2 w' e) (HPV.out w2 H2.out.1) ?_; rintro e w3 ⟨rfl, h1, h2⟩
       have H3 : Hid (MacI B m vp w3 s' ∧ Below B w w3) := ⟨h1, H2.out.2.trans h2⟩
       clear h1 h2))
  all_goals
    go_wp2_with fail
    go_ret
    exact ⟨rfl, H3.out.1, H3.out.2⟩
end Go.Proofs.YtnknnncehcofnaaGreatDoor

namespace Go.Proofs.YtnknnncehcofnaaGreatDoor
open Go.RowKit

theorem irow_nil (B : Nat) (w : World) : IRow B w (.slice none 0 0) [] := ⟨none, 0, rfl, by simp, fun i hi => absurd hi (Nat.not_lt_zero _)⟩

/-- a new frame's numbers -/
def newLocals (lo : Nat) (l : List Int) : List Int := l ++ List.replicate (lo - l.length) 0

def NewTold (k lo : Nat) (l : List Int) (w w' : World) (e : Ending) : Prop := ∃ g, e = .returned (.agg #[.int .i64 k, .int .i64 0, .slice (some ⟨g, 0, none⟩) lo lo, .slice (some ⟨g, lo, none⟩) 0 8]) ∧ w.heap.size ≤ g ∧ VRow w' g (ints (newLocals lo l ++ List.replicate 8 0)) ∧ Below w.heap.size w w'

set_option maxRecDepth 100000 in
set_option maxHeartbeats 1600000 in
theorem implNew {B : Nat} (vp v : Value) (p : List FnM) (k lo : Nat) (l : List Int) (w : World) (hr : FnRow 0 w vp p) (hk : k < p.length) (hlo : p[k].locals = (lo : Int)) (hv : IRow B w v l) (hl : l.length ≤ lo) (hb : lo ≤ 1048576) :
    Calls Tryz.prog 183 #[.agg #[vp], .int .i64 k, v] w fun e w' => NewTold k lo l w w' e := by
  have Hr : Hid (FnRow 0 w vp p) := hr
  have Hv : Hid (IRow B w v l) := hv
  have hlen := hr.len
  obtain ⟨A, cap, rfl⟩ := hr.form
  obtain ⟨D, dap, rfl⟩ := hv.form
  obtain ⟨bp, op, xp, rfl, hltp, e0, e1, e2, hxp⟩ := hr.at k hk
  rw [hlo] at e1
  have hkl : (k : Int) < p.length := by omega
  obtain ⟨t0, t1, t2⟩ := boxes_new w #[.slice (some ⟨bp, op, none⟩) p.length cap] #[.int .i64 0, .int .i64 0, .slice none 0 0, .slice none 0 0] 25 110
  obtain ⟨wa, hwa⟩ : ∃ wa, wa = (w.alloc (.cells #[.slice (some ⟨bp, op, none⟩) p.length cap] 25)).alloc (.cells #[.int .i64 0, .int .i64 0, .slice none 0 0, .slice none 0 0] 110) := ⟨_, rfl⟩
  have y1 : VRow wa (w.heap.size + 1) [.int .i64 0, .int .i64 0, .slice none 0 0, .slice none 0 0] := by
    have := vrow_new (w.alloc (.cells #[.slice (some ⟨bp, op, none⟩) p.length cap] 25)) #[.int .i64 0, .int .i64 0, .slice none 0 0, .slice none 0 0] 110
    rw [hwa]; simpa using this
  rw [← hwa] at t2
  have hL := implLay (k : Int) 0 lo (.slice D l.length dap) (.slice none 0 0) l [] wa (hv.below t2) (irow_nil B wa) hl hb (by simp)
  have HL : Hid (Calls Tryz.prog 175 #[.int .i64 k, .int .i64 0, .int .i64 lo, .slice D l.length dap, .slice none 0 0] wa fun e w' => ∃ g, e = .returned (.agg #[.int .i64 k, .int .i64 0, .slice (some ⟨g, 0, none⟩) lo lo, .slice (some ⟨g, lo, none⟩) 0 8]) ∧ wa.heap.size ≤ g ∧ VRow w' g (ints (newLocals lo l ++ List.replicate 8 0)) ∧ Below wa.heap.size wa w') := hL
  have Y1 : Hid (VRow wa (w.heap.size + 1) [.int .i64 0, .int .i64 0, .slice none 0 0, .slice none 0 0]) := y1
  have T2 : Hid (Below w.heap.size w wa) := t2
  clear hr hv t0 t1 t2 y1 hL hxp e0 e2
  go_enter Tryz.func183, Tryz.ntmps183
  go_wp2_with fail
  rw [← hwa]
  clear hwa
  refine HL.out.mono ?_
  rintro e w1 ⟨g, rfl, hg, hV, hb1⟩
  have Y2 := Y1.out.below hb1
  have HV : Hid (VRow w1 g (ints (newLocals lo l ++ List.replicate 8 0))) := hV
  have Hb1 : Hid (Below w.heap.size w w1) := T2.out.trans (hb1.mono T2.out.size)
  have hgg : w.heap.size + 1 < g := Nat.lt_of_lt_of_le Y1.out.1 hg
  obtain ⟨p0, q0⟩ := Y2.2 0 (by simp)
  obtain ⟨p1, q1⟩ := Y2.2 1 (by simp)
  obtain ⟨p2, q2⟩ := Y2.2 2 (by simp)
  obtain ⟨p3, q3⟩ := Y2.2 3 (by simp)
  have z0 := Y2.1
  simp at p0 p1 p2 p3
  clear hV hb1 Y2 HL
  go_wp2_with fail
  refine bodyPost_ret (v := .agg #[.int .i64 k, .int .i64 0, .slice (some ⟨g, 0, none⟩) lo lo, .slice (some ⟨g, lo, none⟩) 0 8]) (by simp [results, Tryz.results183, go_sem, p0, p1, p2, p3]) rfl ⟨g, rfl, by omega, ?_, ?_⟩
  · exact (((HV.out.set_far _ _ (by show w.heap.size + 1 ≠ g; omega)).set_far _ _ (by show w.heap.size + 1 ≠ g; omega)).set_far _ _ (by show w.heap.size + 1 ≠ g; omega)).set_far _ _ (by show w.heap.size + 1 ≠ g; omega)
  · exact (((Hb1.out.setCell (by simp) _).setCell (by simp) _).setCell (by simp) _).setCell (by simp) _

def NewSTold (k lo : Nat) (l : List Int) (w w' : World) (e : Ending) : Prop := ∃ v, e = .returned (.agg #[.int .i64 k, .int .i64 0, v, .slice none 0 0]) ∧ IRow w.heap.size w' v (newLocals lo l) ∧ Below w.heap.size w w'

def NewVTold (k lo : Nat) (l : List Int) (w w' : World) (e : Ending) : Prop := ∃ g, e = .returned (.agg #[.int .i64 k, .int .i64 0, .slice (some ⟨g, 0, none⟩) lo lo, .slice none 0 0]) ∧ w.heap.size ≤ g ∧ VRow w' g (ints (newLocals lo l)) ∧ Below w.heap.size w w'

set_option maxRecDepth 100000 in
set_option maxHeartbeats 1600000 in
theorem specNewV {B : Nat} (vp v : Value) (p : List FnM) (k lo : Nat) (l : List Int) (w : World) (hr : FnRow 0 w vp p) (hk : k < p.length) (hlo : p[k].locals = (lo : Int)) (hv : IRow B w v l) (hl : l.length ≤ lo) (hb : lo ≤ 1048576) :
    Calls Tryz.prog 111 #[.agg #[vp], .int .i64 k, v] w fun e w' => NewVTold k lo l w w' e := by
  have hlen := hr.len
  obtain ⟨A, cap, rfl⟩ := hr.form
  obtain ⟨D, dap, rfl⟩ := hv.form
  obtain ⟨bp, op, xp, rfl, hltp, e0, e1, e2, hxp⟩ := hr.at k hk
  rw [hlo] at e1
  have hkl : (k : Int) < p.length := by omega
  obtain ⟨i0, hi, hz0, hz1, hz2⟩ := info_parts Tryz.info64
  have hmk := fun (W : World) => run_makeSlice (P := Tryz.prog) W 28 2 i0 _ Tryz.underlying28 hi hz0 .i64 .i64 lo lo (by omega) (by omega) (by rw [hz1]; simp; omega) (by rw [hz2]; omega) (by omega)
  simp only [hz1, Int.toNat_natCast, Nat.mul_one] at hmk
  obtain ⟨x0, x1, x2, x3⟩ := three_rows w #[.slice (some ⟨bp, op, none⟩) p.length cap] #[.int .i64 0, .int .i64 0, .slice none 0 0, .slice none 0 0] (madeCells #[Value.int .i64 0] lo) 25 110 2
  rw [toList_madeCells_one, show List.replicate lo (Value.int .i64 0) = ints (List.replicate lo 0) by simp [ints]] at x2
  obtain ⟨hcp, hrow, hbel⟩ := run_copyInts (dLen := lo) (dCap := lo) (o := 0) x2 (hv.below x3) hl (by simpa using hl) 3
  obtain ⟨W1, hW1⟩ : ∃ W1, W1 = (((w.alloc (.cells #[.slice (some ⟨bp, op, none⟩) p.length cap] 25)).alloc (.cells #[.int .i64 0, .int .i64 0, .slice none 0 0, .slice none 0 0] 110)).alloc (.cells (madeCells #[Value.int .i64 0] lo) 2)).setCells (w.heap.size + 1 + 1) 0 (ints l) := ⟨_, rfl⟩
  rw [← hW1] at hcp hrow hbel
  have hfin : (List.replicate lo (0 : Int)).take 0 ++ l ++ (List.replicate lo (0 : Int)).drop (0 + l.length) = newLocals lo l := by
    rw [List.drop_replicate, Nat.zero_add, List.take_zero, List.nil_append]; rfl
  rw [hfin] at hrow
  have hbb := hbel (w.heap.size + 1 + 1) (Nat.le_refl _)
  have Y : Hid (VRow W1 (w.heap.size + 1) [.int .i64 0, .int .i64 0, .slice none 0 0, .slice none 0 0]) := ⟨Nat.lt_of_lt_of_le x1.1 hbb.size, fun j hj => by rw [hbb.cell (by show w.heap.size + 1 < w.heap.size + 1 + 1; omega), hbb.frozen (by show w.heap.size + 1 < w.heap.size + 1 + 1; omega)]; exact x1.2 j hj⟩
  have HV : Hid (VRow W1 (w.heap.size + 1 + 1) (ints (newLocals lo l))) := hrow
  have Hb1 : Hid (Below w.heap.size w W1) := x3.trans (hbel _ (by omega))
  have hnl : (newLocals lo l).length = lo := by simp [newLocals]; omega
  have Hnl : Hid ((newLocals lo l).length = lo) := hnl
  clear hr hv hW1 x0 x1 x2 x3 hrow hbel hbb hfin hxp e0 e2 hi hz0 hz1 hz2 hnl
  obtain ⟨p0, q0⟩ := Y.out.2 0 (by simp)
  obtain ⟨p1, q1⟩ := Y.out.2 1 (by simp)
  obtain ⟨p2, q2⟩ := Y.out.2 2 (by simp)
  obtain ⟨p3, q3⟩ := Y.out.2 3 (by simp)
  have z0 := Y.out.1
  simp at p0 p1 p2 p3
  go_enter Tryz.func111, Tryz.ntmps111
  go_wp2_with fail
  refine bodyPost_ret (v := .agg #[.int .i64 k, .int .i64 0, .slice (some ⟨w.heap.size + 1 + 1, 0, none⟩) lo lo, .slice none 0 0]) (by simp [results, Tryz.results111, go_sem, p0, p1, p2, p3]) rfl ⟨_, rfl, by omega, ?_, ?_⟩
  · exact (((HV.out.set_far ⟨w.heap.size + 1, 0, none⟩ (.int .i64 k) (by simp)).set_far ⟨w.heap.size + 1, 1, none⟩ (.int .i64 0) (by simp)).set_far ⟨w.heap.size + 1, 2, none⟩ (.slice (some ⟨w.heap.size + 1 + 1, 0, none⟩) lo lo) (by simp)).set_far ⟨w.heap.size + 1, 3, none⟩ (.slice none 0 0) (by simp)
  · exact (((Hb1.out.setCell (by simp) _).setCell (by simp) _).setCell (by simp) _).setCell (by simp) _

theorem specNew {B : Nat} (vp v : Value) (p : List FnM) (k lo : Nat) (l : List Int) (w : World) (hr : FnRow 0 w vp p) (hk : k < p.length) (hlo : p[k].locals = (lo : Int)) (hv : IRow B w v l) (hl : l.length ≤ lo) (hb : lo ≤ 1048576) :
    Calls Tryz.prog 111 #[.agg #[vp], .int .i64 k, v] w fun e w' => NewSTold k lo l w w' e := by
  refine (specNewV vp v p k lo l w hr hk hlo hv hl hb).mono ?_
  rintro e w' ⟨g, rfl, hg, hV, hB⟩
  have hnl : (newLocals lo l).length = lo := by simp [newLocals]; omega
  have := IRow.of_vrow (B := w.heap.size) lo hV hg (by rw [hnl]; omega)
  rw [hnl] at this
  exact ⟨_, rfl, this, hB⟩
end Go.Proofs.YtnknnncehcofnaaGreatDoor
