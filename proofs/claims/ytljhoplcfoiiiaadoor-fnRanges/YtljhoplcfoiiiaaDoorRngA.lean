/- impl.rangeOf, kept. impl.Ranges. -/
import Derived.Test.YtljhoplcfoiiiaaDoorLiveA
import Derived.Test.YtljhoplcfoiiiaaDoorLeastA
namespace Go.Proofs.YtljhoplcfoiiiaaDoor
open Go.RowKit

def RofTold (s n : Nat) (ks : List Nat) (w w' : World) (e : Ending) : Prop := Below w.heap.size w w' ∧
  ((spanN s ks n = none ∧ e = .returned (.tuple #[.agg #[.int .i64 0, .int .i64 0, .int .i64 0], .bool false])) ∨ ∃ f t : Nat, spanN s ks n = some (f, t) ∧ e = .returned (.tuple #[.agg #[.int .i64 (s : Int), .int .i64 (f : Int), .int .i64 (t : Int)], .bool true]))

/-- what a range is on its way -/
def SpanAt (s : Nat) (o : Option (Nat × Nat)) (b : Bool) (xs : List Int) : Prop := (o = none ∧ b = false ∧ xs = [0, 0, 0]) ∨ ∃ f t : Nat, o = some (f, t) ∧ b = true ∧ xs = [(s : Int), (f : Int), (t : Int)]

set_option maxRecDepth 100000 in
set_option maxHeartbeats 3200000 in
theorem implRangeOf (s : Nat) (hs : s < 16) (v : Value) (ks : List Nat) (w : World) (hv : IRow 0 w v (nats ks)) (hk : ∀ a, a < ks.length → ks.getD a 0 < 65536) (hl : ks.length ≤ 60) :
    Calls Tryd.prog 26 #[.int .i64 (s : Int), v] w fun e w' => RofTold s ks.length ks w w' e := by
  have Hv : Hid (IRow 0 w v (nats ks)) := hv
  have Hk : Hid (∀ a, a < ks.length → ks.getD a 0 < 65536) := hk
  obtain ⟨A, cap, rfl⟩ := hv.form
  have hln : (nats ks).length = ks.length := nats_length ks
  rw [hln] at Hv ⊢
  have X0 : Hid (VRow (w.alloc (.cells #[.int .i64 0, .int .i64 0, .int .i64 0] 34)) w.heap.size (ints [0, 0, 0])) := vrow_new w #[.int .i64 0, .int .i64 0, .int .i64 0] 34
  have X2 : Hid (Below w.heap.size w (w.alloc (.cells #[.int .i64 0, .int .i64 0, .int .i64 0] 34))) := (Below.refl _ _).alloc (Nat.le_refl _) _
  obtain ⟨n, Hn⟩ : ∃ n, Hid (n = ks.length) := ⟨_, rfl⟩
  rw [← Hn.out] at hl Hv Hk ⊢
  clear hv hk hln
  go_enter Tryd.func26, Tryd.ntmps26
  go_wp2_with fail
  go_loopg [5, 10] n (fun g x i wr => ∃ j b xs, j ≤ n ∧ x = .bool b ∧ i = .int .i64 (j : Int) ∧ n ≤ j + g ∧ VRow wr w.heap.size (ints xs) ∧ Below w.heap.size w wr ∧ SpanAt s (spanN s ks j) b xs)
  case atStart => exact ⟨0, false, [0, 0, 0], Nat.zero_le _, rfl, rfl, by omega, X0.out, X2.out, .inl ⟨rfl, rfl, rfl⟩⟩
  case round =>
    clear X0 X2
    obtain ⟨j, b, xs, hj, rfl, rfl, hjg, hV, hb, hsp⟩ := hrel
    have HV : Hid (VRow wr w.heap.size (ints xs)) := hV
    have Hb : Hid (Below w.heap.size w wr) := hb
    have hx3 : ∃ a0 a1 a2, xs = [a0, a1, a2] := by
      rcases hsp with ⟨_, _, rfl⟩ | ⟨f, t, _, _, rfl⟩ <;> exact ⟨_, _, _, rfl⟩
    have Hsp : Hid (SpanAt s (spanN s ks j) b xs) := hsp
    obtain ⟨a0, a1, a2, rfl⟩ := hx3
    clear hV hb hsp
    by_cases hjn : j < n
    · obtain ⟨bk, offk, rfl, _, r0, r1⟩ := (Hv.out.below Hb.out).at j (by rw [nats_length, ← Hn.out]; exact hjn)
      have hget : (nats ks)[j]'(by rw [nats_length, ← Hn.out]; exact hjn) = ((ks.getD j 0 : Nat) : Int) := by
        have : j < ks.length := by rw [← Hn.out]; exact hjn
        simp [nats, List.getD, this]
      rw [hget] at r1
      have hkl := Hk.out j hjn
      have o1 := and_i64 (ks.getD j 0) (2 ^ s) hkl (pow_small hs)
      rw [bit_and] at o1
      have HO : Hid (∀ W, Calls Tryd.prog 49 #[.int .i64 (s : Int)] W fun e w' => e = .returned (.int .i64 ((2 ^ s : Nat) : Int)) ∧ w' = W.drew) := fun W => implOne s hs W
      have hpos : 0 < 2 ^ s := Nat.two_pow_pos s
      have hsucc : spanN s ks (j + 1) = if (ks.getD j 0).testBit s = true then (match spanN s ks j with | none => some (j, j) | some (f, _) => some (f, j)) else spanN s ks j := rfl
      obtain ⟨P2, HP2⟩ : ∃ P2 : Nat, Hid (P2 = 2 ^ s) := ⟨_, rfl⟩
      rw [← HP2.out] at o1 HO hpos
      obtain ⟨K, HK⟩ : ∃ K : Nat, Hid (K = ks.getD j 0) := ⟨_, rfl⟩
      rw [← HK.out] at o1 r1 hsucc
      have HNx : Hid (∀ W l, Below w.heap.size w W → VRow W w.heap.size (ints l) → ∀ b, SpanAt s (spanN s ks (j + 1)) b l → ∃ j' b' xs, j' ≤ n ∧ b = b' ∧ j' = j + 1 ∧ VRow W w.heap.size (ints xs) ∧ Below w.heap.size w W ∧ SpanAt s (spanN s ks j') b' xs) := fun W l h1 h2 b h3 => ⟨j + 1, b, l, by omega, rfl, rfl, h2, h1, h3⟩
      cases hbit : K.testBit s with
      | false =>
        rw [hbit] at o1 hsucc
        rw [if_neg (by simp)] at o1 hsucc
        have HA : Hid (SpanAt s (spanN s ks (j + 1)) b [a0, a1, a2]) := by rw [hsucc]; exact Hsp.out
        have HVd : Hid (VRow wr.drew w.heap.size (ints [a0, a1, a2])) := HV.out.drewn
        have HBd : Hid (Below w.heap.size w wr.drew) := Hb.out.drew
        clear hsucc hbit HNx
        go_wp2_with fail
        refine Calls.mono (HO.out _) ?_
        rintro e w5 ⟨rfl, hw5⟩
        subst w5
        go_wp2_with fail
        go_roundg (gk - 1)
        case measure => omega
        case rel => exact ⟨j + 1, b, _, by omega, rfl, by go_num, by omega, HVd.out, HBd.out, HA.out⟩
      | true =>
        rw [hbit] at o1 hsucc
        rw [if_pos rfl] at o1 hsucc
        have hne0 : (P2 : Int) ≠ 0 := by omega
        clear hbit HNx
        have hsp := Hsp.out
        rcases hsp with ⟨hn0, rfl, he⟩ | ⟨f, t, hn0, rfl, he⟩
        · rw [hn0] at hsucc
          have HA : Hid (SpanAt s (spanN s ks (j + 1)) true [(s : Int), (j : Int), (j : Int)]) := .inr ⟨j, j, hsucc, rfl, rfl⟩
          have HV3 : Hid (VRow ((((wr.setCell ⟨w.heap.size, 0, none⟩ (.int .i64 (s : Int))).setCell ⟨w.heap.size, 1, none⟩ (.int .i64 (j : Int))).setCell ⟨w.heap.size, 2, none⟩ (.int .i64 0)).setCell ⟨w.heap.size, 2, none⟩ (.int .i64 (j : Int))).drew w.heap.size (ints [(s : Int), (j : Int), (j : Int)])) :=
            ((HV.out.put3 (.int .i64 (s : Int)) (.int .i64 (j : Int)) (.int .i64 0)).set_at 2 (.int .i64 (j : Int)) (by simp)).drewn
          have HB3 : Hid (Below w.heap.size w ((((wr.setCell ⟨w.heap.size, 0, none⟩ (.int .i64 (s : Int))).setCell ⟨w.heap.size, 1, none⟩ (.int .i64 (j : Int))).setCell ⟨w.heap.size, 2, none⟩ (.int .i64 0)).setCell ⟨w.heap.size, 2, none⟩ (.int .i64 (j : Int))).drew) := ((((Hb.out.setCell (Nat.le_refl _) _).setCell (Nat.le_refl _) _).setCell (Nat.le_refl _) _).setCell (Nat.le_refl _) _).drew
          have c0 := HV.out.at0
          have c1 := HV.out.at1
          have c2 := HV.out.at2
          have f0 := (HV.out.2 0 (by simp [ints])).2
          have f1 := (HV.out.2 1 (by simp [ints])).2
          have f2 := (HV.out.2 2 (by simp [ints])).2
          have cz := HV.out.1
          clear hsucc hn0 he Hsp HV Hb
          go_wp2_with fail
          refine Calls.mono (HO.out _) ?_
          rintro e w5 ⟨rfl, hw5⟩
          subst w5
          go_wp2_with fail
          go_roundg (gk - 1)
          case measure => omega
          case rel => exact ⟨j + 1, true, _, by omega, rfl, by go_num, by omega, HV3.out, HB3.out, HA.out⟩
        · rw [hn0] at hsucc
          simp only [List.cons.injEq, and_true] at he
          obtain ⟨rfl, rfl, rfl⟩ := he
          have HA : Hid (SpanAt s (spanN s ks (j + 1)) true [(s : Int), (f : Int), (j : Int)]) := .inr ⟨f, j, hsucc, rfl, rfl⟩
          have HV3 : Hid (VRow (wr.setCell ⟨w.heap.size, 2, none⟩ (.int .i64 (j : Int))).drew w.heap.size (ints [(s : Int), (f : Int), (j : Int)])) := (HV.out.set_at 2 (.int .i64 (j : Int)) (by simp [ints])).drewn
          have HB3 : Hid (Below w.heap.size w (wr.setCell ⟨w.heap.size, 2, none⟩ (.int .i64 (j : Int))).drew) := (Hb.out.setCell (Nat.le_refl _) _).drew
          have c2 := HV.out.at2
          have f2 := (HV.out.2 2 (by simp [ints])).2
          have cz := HV.out.1
          clear hsucc hn0 Hsp HV Hb
          go_wp2_with fail
          refine Calls.mono (HO.out _) ?_
          rintro e w5 ⟨rfl, hw5⟩
          subst w5
          go_wp2_with fail
          go_roundg (gk - 1)
          case measure => omega
          case rel => exact ⟨j + 1, true, _, by omega, rfl, by go_num, by omega, HV3.out, HB3.out, HA.out⟩
    · have hje : j = n := by omega
      subst hje
      have c0 := HV.out.at0
      have c1 := HV.out.at1
      have c2 := HV.out.at2
      have f0 := (HV.out.2 0 (by simp [ints])).2
      have f1 := (HV.out.2 1 (by simp [ints])).2
      have f2 := (HV.out.2 2 (by simp [ints])).2
      have cz := HV.out.1
      go_wp2_with fail
      have HZ : Hid (VRow (((wr.setCell ⟨w.heap.size, 0, none⟩ (.int .i64 a0)).setCell ⟨w.heap.size, 1, none⟩ (.int .i64 a1)).setCell ⟨w.heap.size, 2, none⟩ (.int .i64 a2)) w.heap.size [.int .i64 a0, .int .i64 a1, .int .i64 a2]) := VRow.put3 (x := .int .i64 a0) (y := .int .i64 a1) (z := .int .i64 a2) (by exact HV.out) _ _ _
      refine bodyPost_ret (v := .tuple #[.agg #[.int .i64 a0, .int .i64 a1, .int .i64 a2], .bool b]) (by simp [results, Tryd.results26, go_sem, HZ.out.at0, HZ.out.at1, HZ.out.at2]) rfl ?_
      refine ⟨((Hb.out.setCell (Nat.le_refl _) _).setCell (Nat.le_refl _) _).setCell (Nat.le_refl _) _, ?_⟩
      rcases Hsp.out with ⟨hn0, rfl, he⟩ | ⟨f, t, hn0, rfl, he⟩
      · simp only [List.cons.injEq, and_true] at he
        obtain ⟨rfl, rfl, rfl⟩ := he
        exact .inl ⟨hn0, rfl⟩
      · simp only [List.cons.injEq, and_true] at he
        obtain ⟨rfl, rfl, rfl⟩ := he
        exact .inr ⟨f, t, hn0, rfl⟩

def KeptTold (nx : Nat → List Int) (rd wf : Nat → Nat) (m : Nat) (w w' : World) (e : Ending) : Prop := ∃ u zs, e = .returned u ∧ OwnV w.heap.size w' u (nats (keptN zs wf (m + 1) m)) ∧ AskedIs nx rd (kpOf wf) (m + 1) zs ∧ Below w.heap.size w w'

set_option maxRecDepth 100000 in
set_option maxHeartbeats 1600000 in
theorem implKept (nx : Nat → List Int) (rd wf : Nat → Nat) (m gb rb wb : Nat) (gs : List Value) (w : World) (hn2 : m + 1 ≤ 60)
    (hG : VRow w gb gs) (hR : RowsTo 0 w (m + 1) (m + 1) nx gs) (hr : VRow w rb (ints (nats (tabN (m + 1) (m + 1) rd)))) (hw : VRow w wb (ints (nats (tabN (m + 1) (m + 1) wf))))
    (hrd : ∀ a, a < m + 1 → rd a < 65536) (hwr : ∀ a, a < m + 1 → wf a < 65536) (hnx : ∀ a, a < m + 1 → ∀ t ∈ nx a, 0 ≤ t ∧ t < ((m + 1 : Nat) : Int)) :
    Calls Tryd.prog 25 #[.agg #[.slice (some ⟨rb, 0, none⟩) (m + 1) (m + 1), .slice (some ⟨wb, 0, none⟩) (m + 1) (m + 1), .slice (some ⟨gb, 0, none⟩) (m + 1) (m + 1)]] w fun e w' => KeptTold nx rd wf m w w' e := by
  have hal : Below w.heap.size w (w.alloc (.cells #[.slice (some ⟨rb, 0, none⟩) (m + 1) (m + 1), .slice (some ⟨wb, 0, none⟩) (m + 1) (m + 1), .slice (some ⟨gb, 0, none⟩) (m + 1) (m + 1)] 51)) := (Below.refl _ _).alloc (Nat.le_refl _) _
  have hc := implUseLive nx rd wf (m + 1) gb rb wb gs _ (by omega) hn2 (hG.below hal) (hR.below hal) (hr.below hal) (hw.below hal) hrd hwr hnx
  have Hal : Hid (Below w.heap.size w (w.alloc _)) := hal
  have Hc : Hid (Calls _ _ _ _ _) := hc
  have HW : Hid (VRow w wb (ints (nats (tabN (m + 1) (m + 1) wf)))) := hw
  have Hwr : Hid (∀ a, a < m + 1 → wf a < 65536) := hwr
  have HB : Hid (VRow (w.alloc (.cells #[.slice (some ⟨rb, 0, none⟩) (m + 1) (m + 1), .slice (some ⟨wb, 0, none⟩) (m + 1) (m + 1), .slice (some ⟨gb, 0, none⟩) (m + 1) (m + 1)] 51)) w.heap.size [.slice (some ⟨rb, 0, none⟩) (m + 1) (m + 1), .slice (some ⟨wb, 0, none⟩) (m + 1) (m + 1), .slice (some ⟨gb, 0, none⟩) (m + 1) (m + 1)]) := vrow_new w _ _
  clear hG hR hr hw hrd hwr hnx hal hc
  go_enter Tryd.func25, Tryd.ntmps25
  go_wp2_with fail
  refine Calls.mono (R := fun e w' => LeastTold nx rd (kpOf wf) (m + 1) _ w' e) Hc.out ?_
  rintro e w1 ⟨u, zs, rfl, hu, ha, hb⟩
  have hzl : zs.length = m + 1 := ha.1
  obtain ⟨A, cap, rfl, _, hor⟩ := hu
  rw [nats_length, hzl]
  obtain ⟨sb, rfl, hsb, hS⟩ : ∃ b, A = some ⟨b, 0, none⟩ ∧ (w.alloc (.cells #[.slice (some ⟨rb, 0, none⟩) (m + 1) (m + 1), .slice (some ⟨wb, 0, none⟩) (m + 1) (m + 1), .slice (some ⟨gb, 0, none⟩) (m + 1) (m + 1)] 51)).heap.size ≤ b ∧ VRow w1 b (ints (nats zs)) := by
    rcases hor with h | h
    · have := congrArg List.length h
      rw [nats_length, hzl] at this
      simp at this
    · exact h
  have hsb' : w.heap.size + 1 ≤ sb := by simpa using hsb
  have HS1 : Hid (VRow w1 sb (ints (nats zs))) := hS
  have Hb1 : Hid (Below w.heap.size w w1) := Hal.out.trans (hb.mono (by simp))
  have HA : Hid (AskedIs nx rd (kpOf wf) (m + 1) zs) := ha
  have hB1 := HB.out.below hb
  have c1 := hB1.at1
  have cz := hB1.1
  have e1 : ((m + 1 : Nat) : Int) - 1 = (m : Int) := by omega
  have e2 : ((m : Int) + 1) - 1 = (m : Int) := by omega
  clear hb ha hS hsb hB1 HB Hc hor
  have hcm : ¬ (m + 1 = 0) := by omega
  go_wp2_with fail
  clear c1 cz
  go_loopg [15] m (fun g i wr => ∃ j, j ≤ m ∧ i = .int .i64 (j : Int) ∧ m ≤ j + g ∧ VRow wr sb (ints (nats (keptN zs wf (m + 1) j))) ∧ Below w.heap.size w wr)
  case atStart => exact ⟨0, Nat.zero_le _, rfl, by omega, by rw [← hzl, keptN_none]; exact HS1.out, Hb1.out⟩
  case round =>
    clear HS1 Hb1
    obtain ⟨j, hj, rfl, hjg, hS, hb⟩ := hrel
    have HS : Hid (VRow wr sb (ints (nats (keptN zs wf (m + 1) j)))) := hS
    have Hb : Hid (Below w.heap.size w wr) := hb
    clear hS hb
    by_cases hjm : j < m
    · obtain ⟨s0, s1⟩ := HS.out.nat (j + 1) (by rw [keptN_length]; omega)
      obtain ⟨w0, _⟩ := (HW.out.below Hb.out).nat j (by rw [tabN_length]; omega)
      rw [tabN_get _ _ _ _ (by omega), if_pos (by omega)] at w0
      have sz := HS.out.1
      have wz := (HW.out.below Hb.out).1
      have hkg : (keptN zs wf (m + 1) j).getD (j + 1) 0 = zs.getD (j + 1) 0 := by rw [keptN_get _ _ _ _ _ (by omega), if_neg (by omega), Nat.or_zero]
      rw [hkg] at s0
      have o1 := or_i64 (zs.getD (j + 1) 0) (wf j) (HA.out.2.1 _ (by omega)) (Hwr.out j (by omega))
      have HN : Hid (VRow (wr.setCell ⟨sb, j + 1, none⟩ (.int .i64 ((zs.getD (j + 1) 0 ||| wf j : Nat) : Int))) sb (ints (nats (keptN zs wf (m + 1) (j + 1))))) := by
        have := HS.out.setNat (j + 1) (zs.getD (j + 1) 0 ||| wf j) (by rw [keptN_length]; omega)
        rwa [keptN_step] at this
      have HNb : Hid (Below w.heap.size w (wr.setCell ⟨sb, j + 1, none⟩ (.int .i64 ((zs.getD (j + 1) 0 ||| wf j : Nat) : Int)))) := Hb.out.setCell (by show w.heap.size ≤ sb; omega) _
      obtain ⟨V, HV⟩ : ∃ V : Nat, Hid (V = wf j) := ⟨_, rfl⟩
      rw [← HV.out] at w0 o1 HN HNb
      obtain ⟨Z, HZ⟩ : ∃ Z : Nat, Hid (Z = zs.getD (j + 1) 0) := ⟨_, rfl⟩
      rw [← HZ.out] at s0 o1 HN HNb
      obtain ⟨D, HD⟩ : ∃ D : Nat, Hid (D = Z ||| V) := ⟨_, rfl⟩
      rw [← HD.out] at o1 HN HNb
      clear hkg HS Hb
      go_wp2_with fail
      go_roundg (gk - 1)
      case measure => omega
      case rel => exact ⟨j + 1, by omega, by go_num, by omega, HN.out, HNb.out⟩
    · have hje : j = m := by omega
      subst hje
      clear hjm
      go_wp2_with fail
      go_ret
      exact ⟨_, zs, rfl, ⟨_, cap, by rw [nats_length, keptN_length]; rfl, by rw [nats_length, keptN_length]; omega, .inr ⟨sb, rfl, by omega, HS.out⟩⟩, HA.out, Hb.out⟩
end Go.Proofs.YtljhoplcfoiiiaaDoor

namespace Go.Proofs.YtljhoplcfoiiiaaDoor
open Go.RowKit

theorem Tryd.infoRg : (Tryd.prog.info? 34).map (fun i => (i.zero, i.size, i.bytes)) = some (some (.agg #[.int .i64 0, .int .i64 0, .int .i64 0]), 3, 24) := by kernel_rfl

/-- the ranges of function f, by impl -/
def RngAns (p : List FnM) (f : Int) (rs : List (Nat × Nat × Nat)) : Prop :=
  (RightP p ∧ inL f p.length = true ∧ ∃ hs zs, HRun p (fnAt p f).code (startH (fnAt p f).code.length) (.inl hs) ∧ Fun8 p (fnAt p f).code (fnAt p f).locals.toNat hs ∧ LiveIs p (fnAt p f).code (fnAt p f).locals.toNat hs zs ∧
    rs = rngs (keptN zs (wrI p (fnAt p f).code (fnAt p f).locals.toNat hs) (fnAt p f).code.length ((fnAt p f).code.length - 1)) (fnAt p f).code.length ((fnAt p f).locals.toNat + 8)) ∨ (¬ (RightP p ∧ inL f p.length = true) ∧ rs = [])

def RngTold (p : List FnM) (f : Int) (w w' : World) (e : Ending) : Prop := ∃ u rs, e = .returned u ∧ RngV w.heap.size w' u rs ∧ RngAns p f rs ∧ Below w.heap.size w w'

theorem keptN_lt {zs : List Nat} {wf : Nat → Nat} {n q : Nat} (hz : ∀ a, a < n → zs.getD a 0 < 65536) (hw : ∀ a, a < n → wf a < 65536) (a : Nat) (ha : a < n) : (keptN zs wf n q).getD a 0 < 65536 := by
  rw [keptN_get _ _ _ _ _ ha]
  refine or_lt (hz a ha) ?_
  split
  · exact hw _ (by omega)
  · omega

theorem RngV.below {B : Nat} {w w' : World} {v : Value} {rs : List (Nat × Nat × Nat)} (h : RngV B w v rs) (hb : Below w.heap.size w w') : RngV B w' v rs :=
  World.ownsRow.kept h (grown_of_below (row := none) hb) (by
    cases hv : v.ownBlock with
    | none => exact .inl rfl
    | some g => exact .inr (by simp))

theorem RngV.far {B : Nat} {w w' : World} {v : Value} {rs : List (Nat × Nat × Nat)} (h : RngV B w v rs) (hb : w.grownBy w' none) : RngV B w' v rs :=
  World.ownsRow.kept h hb (by
    cases hv : v.ownBlock with
    | none => exact .inl rfl
    | some g => exact .inr (by simp))

theorem RngV.lower {B B' : Nat} {w : World} {v : Value} {rs : List (Nat × Nat × Nat)} (h : RngV B w v rs) (hB : B' ≤ B) : RngV B' w v rs :=
  ⟨h.1, h.2.imp id fun ⟨g, cap, cur, e, hb, r⟩ => ⟨g, cap, cur, e, Nat.le_trans hB hb, r⟩⟩

theorem three_cells (W : World) (x y z : Value) (t : TypeId) (b : Nat) (hb : b = W.heap.size) : ∀ (j : Nat) (u : Value), [x, y, z][j]? = some u → (W.alloc (.cells #[x, y, z] t)).cell? ((⟨b, 0, none⟩ : Addr).add j) = some u := by
  intro j u hj
  subst hb
  rw [Addr.add_lit, Nat.zero_add]
  exact (World.cell?_alloc_mark W _ _ (0, 0) j).trans (by simpa using hj)

set_option maxRecDepth 100000 in
set_option maxHeartbeats 3200000 in
theorem implRanges (v : Value) (p : List FnM) (f : Int) (w : World) (ht : Tab w) (hr : FnRow 0 w v p) :
    Calls Tryd.prog 8 #[.agg #[v], .int .i64 f] w fun e w' => RngTold p f w w' e := by
  have Hr : Hid (FnRow 0 w v p) := hr
  have Ht : Hid (Tab w) := ht
  have hlen := hr.len
  obtain ⟨A, cap, rfl⟩ := hr.form
  clear hr ht
  have X0 : Hid (Box _ w.heap.size #[.slice A p.length cap]) := box_new w #[.slice A p.length cap] 25
  have X2 : Hid (Below w.heap.size w (w.alloc (.cells #[.slice A p.length cap] 25))) := (Below.refl _ _).alloc (Nat.le_refl _) _
  go_enter Tryd.func8, Tryd.ntmps8
  go_wp2_with fail
  refine (implIn _ p f _ (Ht.out.below X2.out) (Hr.out.below X2.out)).mono ?_
  rintro e w1 ⟨b, rfl, hb1, hiff⟩
  have Hb1 : Hid (Below w.heap.size w w1) := X2.out.trans (hb1.mono X2.out.size)
  have HB : Hid (Box w1 w.heap.size #[.slice A p.length cap]) := X0.out.below hb1
  have c0 := HB.out.at0
  have cz := HB.out.1
  clear hb1 X0 X2
  cases b with
  | false =>
    have HA : Hid (RngAns p f []) := .inr ⟨fun h => by simpa using hiff.2 h, rfl⟩
    clear hiff
    go_wp2_with fail
    go_ret
    exact ⟨_, [], rfl, ⟨rfl, .inl ⟨rfl, rfl⟩⟩, HA.out, Hb1.out⟩
  | true =>
    obtain ⟨hright, hin⟩ := hiff.1 rfl
    have hin' : 0 ≤ f ∧ f < p.length := by simpa [inL] using hin
    obtain ⟨k, rfl⟩ := Int.eq_ofNat_of_zero_le hin'.1
    have hk : k < p.length := by omega
    obtain ⟨hs, hrun, hl1, hl2, _, _, _⟩ := hright.heights k hk
    obtain ⟨hL0, hF⟩ := hright.fun8 k hk hrun
    obtain ⟨L, hL⟩ := Int.eq_ofNat_of_zero_le hL0
    have hu := implUse (.slice A p.length cap) p k w1 (Ht.out.below Hb1.out) (Hr.out.below Hb1.out) hright hk L hL hs hrun
    have HAns : Hid (∀ zs, LiveIs p (fnAt p k).code (fnAt p k).locals.toNat hs zs → RngAns p k (rngs (keptN zs (wrI p (fnAt p k).code (fnAt p k).locals.toNat hs) (fnAt p k).code.length ((fnAt p k).code.length - 1)) (fnAt p k).code.length ((fnAt p k).locals.toNat + 8))) := fun zs hz => .inl ⟨hright, hin, hs, zs, hrun, hF, hz, rfl⟩
    rw [hL, Int.toNat_natCast] at hF HAns
    obtain ⟨b0, off0, x, rfl, hlt0, e0, e1, e2, hx⟩ := Hr.out.at k hk
    have hfn := fnAt_nat p k hk
    have hlo : p[k].locals = (L : Int) := by rw [← hfn]; exact hL
    rw [hlo] at e1
    obtain ⟨c, hc⟩ : ∃ c, c = (fnAt p k).code := ⟨_, rfl⟩
    rw [← hc] at hF HAns hu
    have HF : Hid (Fun8 p c L hs) := hF
    have He1 : Hid (∀ W, Below w.heap.size w W → W.cell? ⟨b0, off0 + k * 3 + 1, none⟩ = some (.int .i64 (L : Int)) ∧ b0 < W.heap.size) := fun W hb => ⟨by rw [hb.cell (by exact hlt0)]; exact e1, Nat.lt_of_lt_of_le hlt0 hb.size⟩
    have Hu : Hid (Calls Tryd.prog 24 #[.agg #[.slice (some ⟨b0, off0, none⟩) p.length cap], .int .i64 k] w1 fun e w' => UseTold p c L hs w1 w' e) := hu
    clear hiff hright hin hin' hrun hl1 hl2 hL0 hL hu hc hF e0 e1 e2 hx hlo hfn
    have hl8 := HF.out.l8
    go_wp2_with fail
    refine Calls.mono (R := fun e w' => UseTold p c L hs w1 w' e) Hu.out ?_
    rintro e w2 ⟨rb, wb, gb, gs, rfl, h1, h2, h3, h4, hb2⟩
    obtain ⟨m, hm⟩ : ∃ m, c.length = m + 1 := ⟨c.length - 1, by have := HF.out.one; omega⟩
    rw [hm] at h1 h2 h4 HAns ⊢
    have hmk := implKept (nxM c hs) (rdM p c L hs) (wrI p c L hs) m gb rb wb gs w2 (by rw [← hm]; exact HF.out.top) h3 h4 h1 h2 (fun a ha => HF.out.rd_lt (by omega)) (fun a ha => HF.out.wrI_lt (by omega)) (fun a ha t ht => by have := HF.out.nx_range a (by omega) t ht; omega)
    have Hm : Hid (Calls Tryd.prog 25 _ w2 fun e w' => KeptTold (nxM c hs) (rdM p c L hs) (wrI p c L hs) m w2 w' e) := hmk
    have Hb2 : Hid (Below w.heap.size w w2) := Hb1.out.trans (hb2.mono Hb1.out.size)
    have HB2 : Hid (Box w2 w.heap.size #[.slice (some ⟨b0, off0, none⟩) p.length cap]) := HB.out.below hb2
    have hm60 : m + 1 ≤ 60 := by rw [← hm]; exact HF.out.top
    clear h1 h2 h3 h4 hb2 hmk c0 cz Hu
    go_wp2_with fail
    refine Calls.mono (R := fun e w' => KeptTold (nxM c hs) (rdM p c L hs) (wrI p c L hs) m w2 w' e) Hm.out ?_
    rintro e w3 ⟨u, zs, rfl, hu, ha, hb⟩
    have hlive : LiveIs p c L hs zs := HF.out.liveI (by rw [hm]; exact ha)
    have HA : Hid (RngAns p k (rngs (keptN zs (wrI p c L hs) (m + 1) m) (m + 1) (L + 8))) := HAns.out zs hlive
    obtain ⟨ks, Hks⟩ : ∃ ks, Hid (ks = keptN zs (wrI p c L hs) (m + 1) m) := ⟨_, rfl⟩
    have hkl : ks.length = m + 1 := by rw [Hks.out, keptN_length]
    have Hkl : Hid (ks.length = m + 1) := hkl
    have hk60 : ks.length ≤ 60 := by omega
    have Hklt : Hid (∀ a, a < ks.length → ks.getD a 0 < 65536) := fun a ha' => by rw [Hks.out]; exact keptN_lt ha.2.1 (fun a h => HF.out.wrI_lt (by omega)) a (by omega)
    rw [← Hks.out] at hu HA
    have Hb3 : Hid (Below w.heap.size w w3) := Hb2.out.trans (hb.mono Hb2.out.size)
    have HB3 : Hid (Box w3 w.heap.size #[.slice (some ⟨b0, off0, none⟩) p.length cap]) := HB2.out.below hb
    have hui : IRow 0 w3 u (nats ks) := by
      obtain ⟨A', cap', rfl, hl, hor⟩ := hu
      rcases hor with h | ⟨b', rfl, _, hv⟩
      · have := congrArg List.length h
        rw [nats_length, hkl] at this
        simp at this
      · exact IRow.of_vrow cap' hv (Nat.zero_le _) (by omega)
    have Hui : Hid (IRow 0 w3 u (nats ks)) := hui
    obtain ⟨A3, cap3, rfl⟩ := hui.form
    rw [nats_length] at Hui ⊢
    obtain ⟨i1, hi1, hy0, hy1, hy2⟩ := info_parts Tryd.infoRg
    obtain ⟨k1, k2⟩ := He1.out _ Hb3.out
    have c0 := HB3.out.at0
    have cz := HB3.out.1
    clear hu ha hb hlive hui Hm hkl
    go_wp2_with fail
    clear c0 cz k1 k2
    go_loopg [6, 25] (L + 8) (fun g x i wr => ∃ j, j ≤ L + 8 ∧ i = .int .i64 (j : Int) ∧ L + 8 ≤ j + g ∧ Below w3.heap.size w3 wr ∧ RngV w3.heap.size wr x (rngs ks ks.length j))
    case atStart => exact ⟨0, Nat.zero_le _, rfl, by omega, Below.refl _ _, ⟨rfl, .inl ⟨rfl, rfl⟩⟩⟩
    case round =>
      obtain ⟨j, hj, rfl, hjg, hb, hV⟩ := hrel
      have Hb : Hid (Below w3.heap.size w3 wr) := hb
      have HV : Hid (RngV w3.heap.size wr _ (rngs ks ks.length j)) := hV
      obtain ⟨A6, cap6, rfl⟩ := hV.form
      clear hb hV
      by_cases hjl : j < L + 8
      · have hcall := implRangeOf j (by omega) (.slice A3 ks.length cap3) ks wr (Hui.out.below Hb.out) Hklt.out (by omega)
        have Hcall : Hid (Calls Tryd.prog 26 #[.int .i64 (j : Int), .slice A3 ks.length cap3] wr fun e w' => RofTold j ks.length ks wr w' e) := hcall
        clear hcall
        go_wp2_with fail
        refine Calls.mono (R := fun e w' => RofTold j ks.length ks wr w' e) Hcall.out ?_
        intro e w5 hR
        obtain ⟨hb5, hR⟩ := hR
        rcases hR with ⟨hn0, rfl⟩ | ⟨f1, t1, hn0, rfl⟩
        · have hal : Below w5.heap.size w5 (w5.alloc (.cells #[.int .i64 0, .int .i64 0, .int .i64 0] 34)) := (Below.refl _ _).alloc (Nat.le_refl _) _
          have HV5 : Hid (RngV w3.heap.size (w5.alloc (.cells #[.int .i64 0, .int .i64 0, .int .i64 0] 34)) (.slice A6 (rngs ks ks.length j).length cap6) (rngs ks ks.length j)) := (HV.out.below hb5).below hal
          have Hb5 : Hid (Below w3.heap.size w3 (w5.alloc (.cells #[.int .i64 0, .int .i64 0, .int .i64 0] 34))) := (Hb.out.trans (hb5.mono Hb.out.size)).trans (hal.mono (Nat.le_trans Hb.out.size hb5.size))
          have Hr : Hid (rngs ks ks.length (j + 1) = rngs ks ks.length j) := rngs_none ks ks.length j hn0
          clear hb5 hn0 hal
          go_wp2_with fail
          go_roundg (gk - 1)
          case measure => omega
          case rel => exact ⟨j + 1, by omega, by go_num, by omega, Hb5.out, by rw [Hr.out]; exact HV5.out⟩
        · have HV5 : Hid (RngV w3.heap.size w5 (.slice A6 (rngs ks ks.length j).length cap6) (rngs ks ks.length j)) := HV.out.below hb5
          have Hb5 : Hid (Below w3.heap.size w3 w5) := Hb.out.trans (hb5.mono Hb.out.size)
          have Hr : Hid (rngs ks ks.length (j + 1) = rngs ks ks.length j ++ [(j, f1, t1)]) := rngs_some ks ks.length j f1 t1 hn0
          have hrl : (rngs ks ks.length j).length ≤ 16 := by have := rngs_len ks ks.length j; omega
          obtain ⟨rs, Hrs⟩ : ∃ rs, Hid (rs = rngs ks ks.length j) := ⟨_, rfl⟩
          rw [← Hrs.out] at HV5 Hr hrl ⊢
          have hsz5 : w3.heap.size ≤ w5.heap.size := Hb5.out.size
          clear hb5 hn0
          go_wp2_with (at_builtin; refine wpList_append_own _ rfl _ _ 30 rfl w3.heap.size 34 i1 (.agg #[.int .i64 0, .int .i64 0, .int .i64 0]) 3 24 Tryd.underlying30 hi1 hy0 hy1 hy2 rfl (by decide) _ _ _ rfl ((HV5.out.alloc _).alloc _) ⟨_, 0, none⟩ 1 1 [.int .i64 (j : Int), .int .i64 (f1 : Int), .int .i64 (t1 : Int)] rfl rfl (three_cells _ _ _ _ _ _ ?c1) ?c2 ?c3 ?c4 ?c5 ?_)
          case c1 => simp
          case c2 => intro u hu; simp at hu; rcases hu with rfl | rfl | rfl <;> rfl
          case c3 => unfold maxLen; omega
          case c4 => omega
          case c5 => simp; omega
          intro v' w6 hown hg hnil
          have HV6 : Hid (RngV w3.heap.size w6 v' (rngs ks ks.length (j + 1))) := by
            rw [Hr.out]
            show w6.ownsRow _ _ _ _ _ _
            rw [rngCells_snoc, List.length_append]
            exact hown
          have Hb6 : Hid (Below w3.heap.size w3 w6) := ((Hb5.out.alloc Hb5.out.size _).alloc (by simp; omega) _).grown hg (by simp; omega) (fun k hk => (HV5.out.lt k hk).1)
          obtain ⟨A7, cap7, rfl⟩ := HV6.out.form
          clear hown hg hnil
          go_wp2_with fail
          go_roundg (gk - 1)
          case measure => omega
          case rel => exact ⟨j + 1, by omega, by go_num, by omega, Hb6.out, HV6.out⟩
      · have hje : j = L + 8 := by omega
        subst hje
        have HBw : Hid (Below w.heap.size w wr) := Hb3.out.trans (Hb.out.mono Hb3.out.size)
        have HVw : Hid (RngV w.heap.size wr (.slice A6 (rngs ks ks.length (L + 8)).length cap6) (rngs ks ks.length (L + 8))) := HV.out.lower Hb3.out.size
        rw [← Hkl.out] at HA
        go_wp2_with fail
        go_ret
        exact ⟨_, _, rfl, HVw.out, HA.out, HBw.out⟩
end Go.Proofs.YtljhoplcfoiiiaaDoor
