/- impl.leastSets: the fixpoint, in memory. -/
import Derived.Test.YtljhoplcfoiiiaaDoorUseD
import Derived.Test.YtljhoplcfoiiiaaDoorLiveQ
import Derived.Test.YtljhoplcfoiiiaaDoorCloneW
import Derived.Deep.LoopGhost
import Derived.BigQuiet
import Derived.Deep.QuietTactic
namespace Go.Proofs.YtljhoplcfoiiiaaDoor
open Go.RowKit

/-- what is read is in the sets -/
def RdIn (rd : Nat → Nat) (n : Nat) (zs : List Nat) : Prop := ∀ a, a < n → ∀ k, (rd a).testBit k = true → (zs.getD a 0).testBit k = true

theorem RdIn.set {rd : Nat → Nat} {n : Nat} {zs : List Nat} (h : RdIn rd n zs) (q x : Nat) (hq : q < zs.length) (h2 : ∀ k, (zs.getD q 0).testBit k = true → x.testBit k = true) : RdIn rd n (zs.set q x) := by
  intro a ha k hk
  rw [getD_setN _ _ _ _ hq]
  split
  · rename_i e; subst e; exact h2 k (h _ ha k hk)
  · exact h a ha k hk

/-- what is joined to a set, of the first j places to which it goes on -/
def Joined (zs : List Nat) (W q : Nat) (ts : List Int) (j x : Nat) : Prop := x < 65536 ∧ ∀ k, x.testBit k = true ↔ (zs.getD q 0).testBit k = true ∨ ∃ i, i < j ∧ (clr (zs.getD (ts.getD i 0).toNat 0) W).testBit k = true

theorem Joined.start {zs : List Nat} {W q : Nat} {ts : List Int} (h : zs.getD q 0 < 65536) : Joined zs W q ts 0 (zs.getD q 0) := ⟨h, fun k => by simp⟩

theorem Joined.step {zs : List Nat} {W q : Nat} {ts : List Int} {j x t : Nat} (h : Joined zs W q ts j x) (ht : ts.getD j 0 = (t : Int)) (hy : zs.getD t 0 < 65536) : Joined zs W q ts (j + 1) (x ||| clr (zs.getD t 0) W) := by
  refine ⟨or_lt h.1 (clr_lt hy), fun k => ?_⟩
  rw [Nat.testBit_or, Bool.or_eq_true, h.2 k]
  constructor
  · rintro ((h1 | ⟨i, h1, h2⟩) | h1)
    · exact .inl h1
    · exact .inr ⟨i, by omega, h2⟩
    · exact .inr ⟨j, by omega, by rw [ht]; exact h1⟩
  · rintro (h1 | ⟨i, h1, h2⟩)
    · exact .inl (.inl h1)
    · by_cases e : i = j
      · subst e; rw [ht] at h2; exact .inr h2
      · exact .inl (.inr ⟨i, by omega, h2⟩)

def kpOf (wf : Nat → Nat) (a k : Nat) : Bool := !(wf a).testBit k

theorem Joined.done {nx : Nat → List Int} {rd wf : Nat → Nat} {n q x : Nat} {zs0 zs : List Nat} {gr : Bool} (h : Joined zs (wf q) q (nx q) (nx q).length x) (b : Back nx rd (kpOf wf) n zs0 zs gr (q + 1)) (hr : RdIn rd n zs)
    (hn : ∀ a, a < n → ∀ t ∈ nx a, 0 ≤ t ∧ t < n) (hq : q < n) : Back nx rd (kpOf wf) n zs0 (zs.set q x) (gr || x != zs.getD q 0) q ∧ RdIn rd n (zs.set q x) := by
  have hl : q < zs.length := by rw [b.sets.len]; exact hq
  have h2 : ∀ k, (zs.getD q 0).testBit k = true → x.testBit k = true := fun k hk => (h.2 k).2 (.inl hk)
  refine ⟨b.step (fun a t ha ht => by have := hn a ha t ht; omega) hq x h.1 (fun k hk => ?_) h2 (fun k hk => ?_), hr.set q x hl h2⟩
  · rcases (h.2 k).1 hk with h1 | ⟨i, h1, h3⟩
    · exact .inl h1
    · have hm : (nx q).getD i 0 ∈ nx q := by simp [List.getD, h1]
      obtain ⟨h4, h5⟩ := hn q hq _ hm
      rw [clr_bit (b.sets.lt _ (by omega)), Bool.and_eq_true] at h3
      exact .inr (.inr ⟨((nx q).getD i 0).toNat, by rw [Int.toNat_of_nonneg h4]; exact hm, h3.1, h3.2⟩)
  · rcases hk with hk | ⟨t, h3, h4, h5⟩
    · exact h2 k (hr q hq k hk)
    · obtain ⟨i, hi, e⟩ := List.getElem_of_mem h3
      obtain ⟨h6, h7⟩ := hn q hq _ h3
      refine (h.2 k).2 (.inr ⟨i, hi, ?_⟩)
      rw [show (nx q).getD i 0 = (t : Int) by simp [List.getD, hi, e], Int.toNat_natCast, clr_bit (b.sets.lt _ (by omega)), Bool.and_eq_true]
      exact ⟨h4, h5⟩

theorem VRow.nat {w : World} {b : Nat} {zs : List Nat} (h : VRow w b (ints (nats zs))) (k : Nat) (hk : k < zs.length) : w.cell? ⟨b, k, none⟩ = some (.int .i64 ((zs.getD k 0 : Nat) : Int)) ∧ w.frozen? ⟨b, k, none⟩ = false := by
  have := h.int k (by simpa [nats] using hk)
  rwa [show (nats zs).getD k 0 = ((zs.getD k 0 : Nat) : Int) by simp [nats, List.getD, hk]] at this

theorem VRow.setNat {w : World} {b : Nat} {zs : List Nat} (h : VRow w b (ints (nats zs))) (k x : Nat) (hk : k < zs.length) : VRow (w.setCell ⟨b, k, none⟩ (.int .i64 (x : Int))) b (ints (nats (zs.set k x))) := by
  have := h.set_at k (.int .i64 (x : Int)) (by simpa [ints, nats] using hk)
  rwa [ints_set, nats_set] at this

def LeastTold (nx : Nat → List Int) (rd : Nat → Nat) (kp : Nat → Nat → Bool) (n : Nat) (w w' : World) (e : Ending) : Prop := ∃ u zs, e = .returned u ∧ OwnV w.heap.size w' u (nats zs) ∧ AskedIs nx rd kp n zs ∧ Below w.heap.size w w'

set_option maxRecDepth 100000 in
set_option maxHeartbeats 3200000 in
theorem implLeast (nx : Nat → List Int) (rd wf : Nat → Nat) (n gb rb wb : Nat) (gs : List Value) (w : World) (hn1 : 1 ≤ n) (hn2 : n ≤ 60)
    (hG : VRow w gb gs) (hR : RowsTo 0 w n n nx gs) (hr : VRow w rb (ints (nats (tabN n n rd)))) (hw : VRow w wb (ints (nats (tabN n n wf))))
    (hrd : ∀ a, a < n → rd a < 65536) (hwr : ∀ a, a < n → wf a < 65536) (hnx : ∀ a, a < n → ∀ t ∈ nx a, 0 ≤ t ∧ t < n) :
    Calls Tryd.prog 56 #[.slice (some ⟨gb, 0, none⟩) n n, .slice (some ⟨rb, 0, none⟩) n n, .slice (some ⟨wb, 0, none⟩) n n] w fun e w' => LeastTold nx rd (kpOf wf) n w w' e := by
  have hcl := cloneNums8 (B := 0) (.slice (some ⟨rb, 0, none⟩) n n) (nats (tabN n n rd)) w (by
    have := IRow.of_vrow (B := 0) n hr (Nat.zero_le _) (by rw [nats_length, tabN_length]; omega)
    rwa [nats_length, tabN_length] at this) (by rw [nats_length, tabN_length]; omega)
  have Hcl : Hid (Calls Tryd.prog 76 #[.slice (some ⟨rb, 0, none⟩) n n] w fun e w' => NumsTold8 (nats (tabN n n rd)) w w' e) := hcl
  have HG : Hid (VRow w gb gs) := hG
  have HR : Hid (RowsTo 0 w n n nx gs) := hR
  have HW : Hid (VRow w wb (ints (nats (tabN n n wf)))) := hw
  have Hrd : Hid (∀ a, a < n → rd a < 65536) := hrd
  have Hwr : Hid (∀ a, a < n → wf a < 65536) := hwr
  have Hnx : Hid (∀ a, a < n → ∀ t ∈ nx a, 0 ≤ t ∧ t < n) := hnx
  have hgl : gs.length = n := hR.1
  clear hcl hG hR hr hw hrd hwr hnx
  go_enter Tryd.func56, Tryd.ntmps56
  go_wp2_with fail
  refine Calls.mono (R := fun e w' => NumsTold8 (nats (tabN n n rd)) w w' e) Hcl.out ?_
  rintro e w1 ⟨v', rfl, hown, hb1⟩
  obtain ⟨sb, cap, rfl, hsb, hS⟩ := own_vrow (by exact hown) (by rw [nats_length, tabN_length]; omega)
  rw [nats_length, tabN_length]
  have HS1 : Hid (VRow w1 sb (ints (nats (tabN n n rd)))) := hS
  have Hb1 : Hid (Below w.heap.size w w1) := hb1
  have Hsb : Hid (w.heap.size ≤ sb) := hsb
  clear hown hb1 hsb hS Hcl
  go_wp2_with fail
  go_loopg [8] (n * 65536 + 2) (fun g x wr => ∃ zs gr, x = .bool gr ∧ VRow wr sb (ints (nats zs)) ∧ Below w.heap.size w wr ∧ Sets nx rd (kpOf wf) n zs ∧ RdIn rd n zs ∧ (gr = true → n * 65536 + 2 ≤ zs.sum + g) ∧ (gr = false → ∀ a, a < n → Closed nx rd (kpOf wf) zs a))
  case atStart =>
    have hg : ∀ a, a < n → (tabN n n rd).getD a 0 = rd a := fun a ha => by rw [tabN_get n n rd a ha, if_pos ha]
    exact ⟨tabN n n rd, true, rfl, HS1.out, Hb1.out, ⟨tabN_length _ _ _, fun a ha => by rw [hg a ha]; exact Hrd.out a ha, fun a k ha hk => by rw [hg a ha] at hk; exact .read a k hk⟩, fun a ha k hk => by rw [hg a ha]; exact hk, fun _ => by omega, fun h => by cases h⟩
  case round =>
    clear HS1 Hb1
    obtain ⟨zs, gr, rfl, hS, hb, hsets, hri, hmore, hstill⟩ := hrel
    obtain ⟨g1, Hg1⟩ : ∃ g1, Hid (g1 = gk) := ⟨_, rfl⟩
    rw [← Hg1.out] at hmore
    cases gr with
    | false =>
      have hzl := hsets.len
      have hz1 : 1 ≤ zs.length := by omega
      have HA : Hid (AskedIs nx rd (kpOf wf) n zs) := hsets.done (fun a t ha ht => by have := Hnx.out a ha t ht; omega) (hstill rfl)
      have HO : Hid (OwnV w.heap.size wr (.slice (some ⟨sb, 0, none⟩) n cap) (nats zs)) := ⟨_, cap, by rw [nats_length, hzl], by rw [nats_length]; omega, .inr ⟨sb, rfl, Hsb.out, hS⟩⟩
      have Hb : Hid (Below w.heap.size w wr) := hb
      clear hS hb hsets hri hmore hstill hz1
      go_wp2_with fail
      go_ret
      exact ⟨_, zs, rfl, HO.out, HA.out, Hb.out⟩
    | true =>
      have HS0 : Hid (VRow wr sb (ints (nats zs))) := hS
      have Hb0 : Hid (Below w.heap.size w wr) := hb
      have Hset0 : Hid (Sets nx rd (kpOf wf) n zs) := hsets
      have Hri0 : Hid (RdIn rd n zs) := hri
      have Hm0 : Hid (n * 65536 + 2 ≤ zs.sum + g1) := hmore rfl
      have Hp1 : Hid (1 ≤ g1) := by have h1 := hsets.sum; have h2 := hmore rfl; exact (by omega : 1 ≤ g1)
      clear hS hb hsets hri hmore hstill
      go_wp2_with fail
      go_loopg [8, 9] n (fun g x i wr => ∃ q zs' gr, q ≤ n ∧ i = .int .i64 ((q : Int) - 1) ∧ x = .bool gr ∧ q ≤ g ∧ VRow wr sb (ints (nats zs')) ∧ Below w.heap.size w wr ∧ RdIn rd n zs' ∧ Back nx rd (kpOf wf) n zs zs' gr q)
      case atStart => exact ⟨n, zs, false, Nat.le_refl _, by go_num, rfl, Nat.le_refl _, HS0.out, Hb0.out, Hri0.out, Back.start Hset0.out⟩
      case round =>
        clear HS0 Hb0 Hset0 Hri0
        obtain ⟨q, zs', gr, hq, rfl, rfl, hqg, hS, hb, hri, hback⟩ := hrel
        obtain ⟨g2, Hg2⟩ : ∃ g2, Hid (g2 = gk) := ⟨_, rfl⟩
        rw [← Hg2.out] at hqg
        have HS : Hid (VRow wr sb (ints (nats zs'))) := hS
        have Hb : Hid (Below w.heap.size w wr) := hb
        have Hri : Hid (RdIn rd n zs') := hri
        have Hback : Hid (Back nx rd (kpOf wf) n zs zs' gr q) := hback
        clear hS hb hri hback
        by_cases hq0 : q = 0
        · subst hq0
          have hl := Hback.out.sets.len
          have hsum := Hback.out.sets.sum
          have hm := Hm0.out
          have hstill := Hback.out.still
          have hmore := Hback.out.more
          have HF : Hid (∃ zs gr', VRow wr sb (ints (nats zs)) ∧ gr = gr' ∧ Below w.heap.size w wr ∧ Sets nx rd (kpOf wf) n zs ∧ RdIn rd n zs ∧ (gr' = true → n * 65536 + 2 ≤ zs.sum + (g1 - 1)) ∧ (gr' = false → ∀ a, a < n → Closed nx rd (kpOf wf) zs a)) :=
            ⟨zs', gr, HS.out, rfl, Hb.out, Hback.out.sets, Hri.out, fun h => by have := hmore h; omega, fun h a ha => (hstill h).2 a (Nat.zero_le _) ha⟩
          clear hl hsum hm hstill hmore HS Hb Hri Hback
          go_wp2_with fail
          go_roundg (g1 - 1)
          case measure => have := Hg1.out; have := Hp1.out; omega
          case rel =>
            obtain ⟨zs, gr', h1, rfl, h2, h3, h4, h5, h6⟩ := HF.out
            exact ⟨zs, gr, rfl, h1, h2, h3, h4, h5, h6⟩
        · obtain ⟨a, rfl⟩ : ∃ a, q = a + 1 := ⟨q - 1, by omega⟩
          have e1 : ((a + 1 : Nat) : Int) - 1 = (a : Int) := by omega
          rw [e1]
          have han : a < n := by omega
          have hzl := Hback.out.sets.len
          obtain ⟨hs0, hs1⟩ := HS.out.nat a (by omega)
          have hsz := HS.out.1
          obtain ⟨Y, HY⟩ : ∃ Y, Hid (Y = zs'.getD a 0) := ⟨_, rfl⟩
          rw [← HY.out] at hs0
          obtain ⟨ts, Hts⟩ : ∃ ts, Hid (ts = nx a) := ⟨_, rfl⟩
          have hrow := (HR.out.below Hb.out).2 a han
          rw [if_pos han, ← Hts.out] at hrow
          obtain ⟨k0, k1⟩ := (HG.out.below Hb.out).2 a (by omega)
          have hge : gs.getD a (.slice none 0 0) = gs[a] := by simp [List.getD, hgl, han]
          rw [hge] at hrow
          obtain ⟨At, capt, het⟩ := hrow.form
          rw [het] at hrow k0
          have Hrow : Hid (IRow 0 wr (.slice At ts.length capt) ts) := hrow
          have HJ : Hid (Joined zs' (wf a) a ts 0 Y) := by
            have := Joined.start (zs := zs') (W := wf a) (q := a) (ts := ts) (Hback.out.sets.lt a han)
            rwa [← HY.out] at this
          have htl := hrow.len
          clear hrow hge het e1 hq0
          go_wp2_with fail
          clear hs0 hs1 hsz k0 k1
          go_loopg [10, 32] (ts.length) (fun g x i wr => ∃ j X, j ≤ ts.length ∧ x = .int .i64 ((X : Nat) : Int) ∧ i = .int .i64 (j : Int) ∧ ts.length ≤ j + g ∧ VRow wr sb (ints (nats zs')) ∧ Below w.heap.size w wr ∧ IRow 0 wr (.slice At ts.length capt) ts ∧ Joined zs' (wf a) a ts j X)
          case atStart => exact ⟨0, Y, Nat.zero_le _, rfl, rfl, by omega, HS.out, Hb.out, Hrow.out, HJ.out⟩
          case round =>
            clear HS Hb Hrow HJ
            obtain ⟨j, X, hj, rfl, rfl, hjg, hS, hb, hrow, hJ⟩ := hrel
            have HS : Hid (VRow wr sb (ints (nats zs'))) := hS
            have Hb : Hid (Below w.heap.size w wr) := hb
            have Hrow : Hid (IRow 0 wr (.slice At ts.length capt) ts) := hrow
            have HJ : Hid (Joined zs' (wf a) a ts j X) := hJ
            clear hS hb hrow hJ
            by_cases hjl : j < ts.length
            · obtain ⟨tn, htn⟩ : ∃ tn : Nat, ts.getD j 0 = (tn : Int) ∧ tn < n := by
                have hm : ts.getD j 0 ∈ nx a := by rw [← Hts.out]; simp [List.getD, hjl]
                obtain ⟨h4, h5⟩ := Hnx.out a han _ hm
                exact ⟨(ts.getD j 0).toNat, by omega, by omega⟩
              obtain ⟨ht1, ht2⟩ := htn
              have htj : ts[j] = (tn : Int) := by rw [← ht1]; simp [List.getD, hjl]
              obtain ⟨bt, offt, rfl, _, r0, r1⟩ := Hrow.out.at j hjl
              rw [htj] at r1
              have hy := Hback.out.sets.lt tn ht2
              obtain ⟨s0, _⟩ := HS.out.nat tn (by omega)
              obtain ⟨w0, _⟩ := (HW.out.below Hb.out).nat a (by rw [tabN_length]; exact han)
              rw [tabN_get n n wf a han, if_pos han] at w0
              have sz := HS.out.1
              have wz := (HW.out.below Hb.out).1
              have HJ' : Hid (Joined zs' (wf a) a ts (j + 1) (X ||| clr (zs'.getD tn 0) (wf a))) := HJ.out.step ht1 hy
              have o1 := clr_i64 (zs'.getD tn 0) (wf a) hy (Hwr.out a han)
              have o2 := or_i64 X (clr (zs'.getD tn 0) (wf a)) HJ.out.1 (clr_lt hy)
              have HK : Hid (∀ wP, Below wr.heap.size wr wP → VRow wP sb (ints (nats zs')) ∧ Below w.heap.size w wP ∧ IRow 0 wP (.slice (some ⟨bt, offt, none⟩) ts.length capt) ts) := fun wP h => ⟨HS.out.below h, Hb.out.trans (h.mono Hb.out.size), Hrow.out.below h⟩
              obtain ⟨Z, HZ⟩ : ∃ Z, Hid (Z = zs'.getD tn 0) := ⟨_, rfl⟩
              obtain ⟨V, HV⟩ : ∃ V, Hid (V = wf a) := ⟨_, rfl⟩
              rw [← HZ.out] at s0 o1 o2 HJ'
              rw [← HV.out] at w0 o1 o2 HJ'
              obtain ⟨C, HC⟩ : ∃ C, Hid (C = clr Z V) := ⟨_, rfl⟩
              rw [← HC.out] at o1 o2 HJ'
              obtain ⟨D, HD⟩ : ∃ D, Hid (D = X ||| C) := ⟨_, rfl⟩
              rw [← HD.out] at o2 HJ'
              clear hy htj ht1
              go_wp2_with fail
              go_region
              all_goals
                go_wp2_with fail
                go_roundg (gk - 1)
                case measure => omega
                case rel =>
                  obtain ⟨k1, k2, k3⟩ := HK.out _ (Below.refl _ _).drew
                  exact ⟨j + 1, D, by omega, rfl, by go_num, by omega, k1, k2, k3, by rw [← HV.out]; exact HJ'.out⟩
            · have hje : j = ts.length := by omega
              subst hje
              have hdone := Joined.done (nx := nx) (rd := rd) (wf := wf) (n := n) (x := X) (by rw [← Hts.out]; exact HJ.out) Hback.out Hri.out Hnx.out han
              have hzl := Hback.out.sets.len
              obtain ⟨s0, s1⟩ := HS.out.nat a (by omega)
              have sz := HS.out.1
              rw [← HY.out] at s0 hdone
              have HD1 : Hid (Back nx rd (kpOf wf) n zs (zs'.set a X) (gr || X != Y) a) := hdone.1
              have HD2 : Hid (RdIn rd n (zs'.set a X)) := hdone.2
              have HN : Hid (VRow (wr.setCell ⟨sb, a, none⟩ (.int .i64 (X : Int))) sb (ints (nats (zs'.set a X)))) := HS.out.setNat a X (by omega)
              have HNb : Hid (Below w.heap.size w (wr.setCell ⟨sb, a, none⟩ (.int .i64 (X : Int)))) := Hb.out.setCell (by exact Hsb.out) _
              clear hdone hzl HS Hb Hri Hback HJ
              have hne : ((X : Int) != (Y : Int)) = (X != Y) := by
                by_cases h : X = Y
                · subst h; simp
                · have h' : (X : Int) ≠ Y := by omega
                  rw [bne_iff_ne.2 h, bne_iff_ne.2 h']
              obtain ⟨df, Hdf⟩ : ∃ df, Hid (df = (X != Y)) := ⟨_, rfl⟩
              rw [← Hdf.out] at hne HD1
              cases gr with
              | true =>
                rw [Bool.true_or] at HD1
                go_wp2_with fail
                go_roundg (g2 - 1)
                case measure => have := Hg2.out; omega
                case rel => exact ⟨a, _, true, by omega, by go_num, rfl, by omega, HN.out, HNb.out, HD2.out, HD1.out⟩
              | false =>
                rw [Bool.false_or] at HD1
                go_wp2_with fail
                go_roundg (g2 - 1)
                case measure => have := Hg2.out; omega
                case rel => exact ⟨a, _, df, by omega, by go_num, rfl, by omega, HN.out, HNb.out, HD2.out, HD1.out⟩
end Go.Proofs.YtljhoplcfoiiiaaDoor
