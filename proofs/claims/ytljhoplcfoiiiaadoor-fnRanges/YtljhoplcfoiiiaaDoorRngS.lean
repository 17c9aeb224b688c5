/- spec.Ranges. -/
import Derived.Test.YtljhoplcfoiiiaaDoorRngA
import Derived.Test.YtljhoplcfoiiiaaDoorLiveB
import Derived.Maps.AppendAt
namespace Go.Proofs.YtljhoplcfoiiiaaDoor
open Go.RowKit

/-- what the model counts as written -/
def wrT (p : List FnM) (c : List (Int × Int)) (L : Nat) (hs : List Int) (a : Nat) : Nat := if 0 ≤ hs.getD a 0 then wrS p c L hs a else 0

/-- the ranges of function f, by the model -/
def RngAnsS (p : List FnM) (f : Int) (rs : List (Nat × Nat × Nat)) : Prop :=
  (RightP p ∧ inL f p.length = true ∧ ∃ hs zs, HRun p (fnAt p f).code (startH (fnAt p f).code.length) (.inl hs) ∧ Fun8 p (fnAt p f).code (fnAt p f).locals.toNat hs ∧ LiveIs p (fnAt p f).code (fnAt p f).locals.toNat hs zs ∧
    rs = rngs (keptN zs (wrT p (fnAt p f).code (fnAt p f).locals.toNat hs) (fnAt p f).code.length ((fnAt p f).code.length - 1)) (fnAt p f).code.length 16) ∨ (¬ (RightP p ∧ inL f p.length = true) ∧ rs = [])

def RngToldS (p : List FnM) (f : Int) (w w' : World) (e : Ending) : Prop := ∃ u rs, e = .returned u ∧ RngV w.heap.size w' u rs ∧ RngAnsS p f rs ∧ Below w.heap.size w w'

/-- what a range is on its way, in the model -/
def SpanS (s : Nat) (o : Option (Nat × Nat)) (xs : List Int) : Prop := (o = none ∧ xs = [(s : Int), -1, 0]) ∨ ∃ f t : Nat, o = some (f, t) ∧ xs = [(s : Int), (f : Int), (t : Int)]

set_option maxRecDepth 100000 in
set_option maxHeartbeats 6400000 in
theorem specRanges (v : Value) (p : List FnM) (f : Int) (w : World) (hr : FnRow 0 w v p) (hp : ∀ g ∈ p, g.ok) :
    Calls Tryd.prog 9 #[.agg #[v], .int .i64 f] w fun e w' => RngToldS p f w w' e := by
  have Hr : Hid (FnRow 0 w v p) := hr
  have Hp : Hid (∀ g ∈ p, g.ok) := hp
  have hlen := hr.len
  obtain ⟨A, cap, rfl⟩ := hr.form
  clear hr hp
  have X0 : Hid (Box ((w.alloc (.cells #[.slice A p.length cap] 25)).alloc (.cells #[] 34)) w.heap.size #[.slice A p.length cap]) := (box_new w #[.slice A p.length cap] 25).below ((Below.refl _ _).alloc (Nat.le_refl _) _)
  have X2 : Hid (Below w.heap.size w ((w.alloc (.cells #[.slice A p.length cap] 25)).alloc (.cells #[] 34))) := ((Below.refl _ _).alloc (Nat.le_refl _) _).alloc (by simp) _
  have HO : Hid (RngV w.heap.size ((w.alloc (.cells #[.slice A p.length cap] 25)).alloc (.cells #[] 34)) (.slice (some ⟨w.heap.size + 1, 0, none⟩) 0 0) []) := by
    have := World.ownsRow_lit (e := 34) (size := 3) (base := w.heap.size) (w.alloc (.cells #[.slice A p.length cap] 25)) #[] 0 (by simp) (Nat.zero_le _) rfl
    rwa [show (w.alloc (.cells #[.slice A p.length cap] 25)).heap.size = w.heap.size + 1 by simp] at this
  go_enter Tryd.func9, Tryd.ntmps9
  go_wp2_with fail
  refine (specIs _ p f _ (Hr.out.below X2.out) Hp.out).mono ?_
  rintro e w1 ⟨b, rfl, hb1, hiff⟩
  have Hb1 : Hid (Below w.heap.size w w1) := X2.out.trans (hb1.mono X2.out.size)
  have HB : Hid (Box w1 w.heap.size #[.slice A p.length cap]) := X0.out.below hb1
  have HO1 : Hid (RngV w.heap.size w1 (.slice (some ⟨w.heap.size + 1, 0, none⟩) 0 0) []) := HO.out.below hb1
  have hz1 : w.heap.size + 2 ≤ w1.heap.size := by have := hb1.size; simpa using this
  have c0 := HB.out.at0
  have cz := HB.out.1
  clear hb1 X0 X2 HO
  cases b with
  | false =>
    have HA : Hid (RngAnsS p f []) := .inr ⟨fun h => by simpa using hiff.2 h, rfl⟩
    clear hiff
    go_wp2_with fail
    go_ret
    exact ⟨_, [], rfl, HO1.out, HA.out, Hb1.out⟩
  | true =>
    obtain ⟨hright, hin⟩ := hiff.1 rfl
    have hin' : 0 ≤ f ∧ f < p.length := by simpa [inL] using hin
    obtain ⟨k, rfl⟩ := Int.eq_ofNat_of_zero_le hin'.1
    have hk : k < p.length := by omega
    obtain ⟨hs, hrun, hl1, hl2, _, _, _⟩ := hright.heights k hk
    obtain ⟨hL0, hF⟩ := hright.fun8 k hk hrun
    obtain ⟨L, hL⟩ := Int.eq_ofNat_of_zero_le hL0
    have hfn := fnAt_nat p k hk
    obtain ⟨_, hall, _⟩ := ((hright.all).2.2 k hk).well rfl
    have HAns : Hid (∀ zs, LiveIs p (fnAt p k).code (fnAt p k).locals.toNat hs zs → RngAnsS p k (rngs (keptN zs (wrT p (fnAt p k).code (fnAt p k).locals.toNat hs) (fnAt p k).code.length ((fnAt p k).code.length - 1)) (fnAt p k).code.length 16)) := fun zs hz => .inl ⟨hright, hin, hs, zs, hrun, hF, hz, rfl⟩
    rw [hL, Int.toNat_natCast] at hF HAns
    obtain ⟨b0, off0, x, rfl, hlt0, e0, e1, e2, hx⟩ := Hr.out.at k hk
    have hlo : p[k].locals = (L : Int) := by rw [← hfn]; exact hL
    rw [hlo] at e1
    have HL8 : Hid (∀ W, FnRow 0 W (.slice (some ⟨b0, off0, none⟩) p.length cap) p → Calls Tryd.prog 22 #[.agg #[.slice (some ⟨b0, off0, none⟩) p.length cap], .int .i64 k] W fun e w' => LeastTold (nxM (fnAt p k).code hs) (rdM p (fnAt p k).code L hs) (kpS p (fnAt p k).code L hs) (fnAt p k).code.length W w' e) := fun W hW => specL8 _ p k W hW Hp.out hright hk L hL hs hrun
    obtain ⟨c, hc⟩ : ∃ c, c = p[k].code := ⟨_, rfl⟩
    have hcf : (fnAt p k).code = c := by rw [hfn, hc]
    rw [← hc] at hx
    rw [hcf] at hF HAns HL8 hrun hall
    have hfi := specHeights (.slice (some ⟨b0, off0, none⟩) p.length cap) p k w1 (Hr.out.below Hb1.out) Hp.out hk (by rw [← hc]; exact hF.one) (by rw [← hc]; exact hF.top) (by rw [← hc]; exact goesTo_range (p := p) (f := k) hcf.symm hall)
    rw [← hc] at hfi
    have Hfi : Hid (Calls Tryd.prog 27 #[.agg #[.slice (some ⟨b0, off0, none⟩) p.length cap], .int .i64 k] w1 fun e w' => HTold p c k w1 w' e) := hfi
    have HF : Hid (Fun8 p c L hs) := hF
    have Hrun : Hid (HRun p c (startH c.length) (.inl hs)) := hrun
    have Hx : Hid (InsRow 0 w x c) := hx
    obtain ⟨m, hm⟩ : ∃ m, c.length = m + 1 := ⟨c.length - 1, by have := hF.one; omega⟩
    have hm60 : m + 1 ≤ 60 := by rw [← hm]; exact hF.top
    have hl8 := hF.l8
    obtain ⟨Ac, capc, rfl⟩ := hx.form
    rw [hm] at Hx HAns HL8 e2
    clear hiff hright hin hin' hrun hl1 hl2 hL0 hL hc hF hx hlo hfn hcf hall hfi e0
    go_wp2_with fail
    refine Calls.mono (R := fun e w' => HTold p c k w1 w' e) Hfi.out ?_
    rintro e w2 ⟨bh, caph, F, A2, C, rfl, hbl, hb2, hcase⟩
    have Hb2 : Hid (Below w.heap.size w w2) := Hb1.out.trans (hb2.mono Hb1.out.size)
    rcases hcase with ⟨rfl, rfl, rfl, hs', hrun', hV, hl'⟩ | ⟨_, a, _, hrun'⟩
    · have he : hs' = hs := by simpa using hrun'.unique Hrun.out
      subst he
      have hal : Below w2.heap.size w2 (w2.alloc (.cells #[.int .i64 0, .int .i64 0, .int .i64 0] 60)) := (Below.refl _ _).alloc (Nat.le_refl _) _
      obtain ⟨W1, HW1⟩ : ∃ W1, Hid (W1 = w2.alloc (.cells #[.int .i64 0, .int .i64 0, .int .i64 0] 60)) := ⟨_, rfl⟩
      have hbw : Below w.heap.size w W1 := by rw [HW1.out]; exact Hb2.out.trans (hal.mono Hb2.out.size)
      have hbx : Below w1.heap.size w1 W1 := by rw [HW1.out]; exact hb2.trans (hal.mono hb2.size)
      have HK : Hid (∀ wr, Below W1.heap.size W1 wr → (Box wr w.heap.size #[.slice (some ⟨b0, off0, none⟩) p.length cap] ∧ VRow wr bh (ints hs') ∧ FnRow 0 wr (.slice (some ⟨b0, off0, none⟩) p.length cap) p ∧ InsRow 0 wr (.slice Ac (m + 1) capc) c) ∧ (Below w.heap.size w wr ∧ RngV w.heap.size wr (.slice (some ⟨w.heap.size + 1, 0, none⟩) 0 0) []) ∧
          wr.cell? ⟨b0, off0 + k * 3 + 1, none⟩ = some (.int .i64 L) ∧ wr.cell? ⟨b0, off0 + k * 3 + 2, none⟩ = some (.slice Ac (m + 1) capc) ∧ b0 < wr.heap.size) := fun wr hb => by
        have h1 : Below w1.heap.size w1 wr := hbx.trans (hb.mono hbx.size)
        have h2 := Hb1.out.trans (h1.mono Hb1.out.size)
        have h3 : VRow W1 bh (ints hs') := by rw [HW1.out]; exact hV.below hal
        exact ⟨⟨HB.out.below h1, h3.below hb, Hr.out.below h2, Hx.out.below h2⟩, ⟨h2, HO1.out.below h1⟩, by rw [h2.cell (by exact hlt0)]; exact e1, by rw [h2.cell (by exact hlt0)]; exact e2, Nat.lt_of_lt_of_le hlt0 h2.size⟩
      have Hl8 : Hid (Calls Tryd.prog 22 #[.agg #[.slice (some ⟨b0, off0, none⟩) p.length cap], .int .i64 k] W1 fun e w' => LeastTold (nxM c hs') (rdM p c L hs') (kpS p c L hs') (m + 1) W1 w' e) := HL8.out W1 ((HK.out _ (Below.refl _ _)).1.2.2.1)
      have hW1s : w1.heap.size ≤ W1.heap.size := hbx.size
      obtain ⟨⟨hB3, hV3, _, _⟩, _, k1, k2, k3⟩ := HK.out _ (Below.refl _ _)
      have Hk : Hid (W1.cell? ⟨w.heap.size, 0, none⟩ = some (.slice (some ⟨b0, off0, none⟩) p.length cap) ∧ W1.cell? ⟨b0, off0 + k * 3 + 2, none⟩ = some (.slice Ac (m + 1) capc)) := ⟨hB3.at0, k2⟩
      have HW1' := HW1.out
      clear c0 cz hal hbw hbx hV hrun' hb2 HL8 Hfi hB3 hV3 k1 k2 k3 e1 e2
      have c0 := Hk.out.1
      have k2 := Hk.out.2
      rw [HW1'] at c0 k2
      have cz : w.heap.size < w2.heap.size := by have := Hb2.out.size; have := HB.out.1; have := hW1s; rw [HW1'] at this; simp at this; omega
      have hl8' := Hl8.out
      rw [HW1'] at hl8'
      have Hl8' : Hid (Calls Tryd.prog 22 #[.agg #[.slice (some ⟨b0, off0, none⟩) p.length cap], .int .i64 k] (w2.alloc (.cells #[.int .i64 0, .int .i64 0, .int .i64 0] 60)) fun e w' => LeastTold (nxM c hs') (rdM p c L hs') (kpS p c L hs') (m + 1) W1 w' e) := by rw [HW1']; exact hl8'
      clear hl8' Hl8 HW1' Hk
      go_wp2_with fail
      refine Calls.mono (R := fun e w' => LeastTold (nxM c hs') (rdM p c L hs') (kpS p c L hs') (m + 1) W1 w' e) Hl8'.out ?_
      rintro e w3 ⟨u, zs, rfl, hu, ha, hb3⟩
      have hzl : zs.length = m + 1 := ha.1
      obtain ⟨A3, cap3, rfl, _, hor⟩ := hu
      rw [nats_length, hzl]
      obtain ⟨sb, rfl, hsb, hS⟩ : ∃ b, A3 = some ⟨b, 0, none⟩ ∧ W1.heap.size ≤ b ∧ VRow w3 b (ints (nats zs)) := by
        rcases hor with h | h
        · have := congrArg List.length h
          rw [nats_length, hzl] at this
          simp at this
        · exact h
      have HS3 : Hid (VRow w3 sb (ints (nats zs))) := hS
      have Hb3 : Hid (Below W1.heap.size W1 w3) := hb3
      have Hsb : Hid (W1.heap.size ≤ sb) := hsb
      have HA : Hid (LiveIs p c L hs' zs) := by show AskedIs _ _ _ c.length zs; rw [hm]; exact ha
      have Hzlt : Hid (∀ a, a < m + 1 → zs.getD a 0 < 65536) := ha.2.1
      have hwlt : ∀ a, a < m + 1 → wrT p c L hs' a < 65536 := fun a ha => by
        unfold wrT
        split
        · rename_i h0; exact HF.out.wrS_lt (by omega) h0
        · omega
      have Hwlt : Hid (∀ a, a < m + 1 → wrT p c L hs' a < 65536) := hwlt
      have Hzl : Hid (zs.length = m + 1) := hzl
      have Hm : Hid (c.length = m + 1) := hm
      clear hS hb3 hsb ha hor hwlt hzl hm c0 cz k2 Hl8'
      go_wp2_with fail
      go_loopg [10] (m + 1) (fun g i wr => ∃ j, j ≤ m ∧ i = .int .i64 (j : Int) ∧ m + 1 ≤ j + g ∧ VRow wr sb (ints (nats (keptN zs (wrT p c L hs') (m + 1) j))) ∧ Below W1.heap.size W1 wr)
      case atStart => exact ⟨0, Nat.zero_le _, rfl, by omega, by rw [← Hzl.out, keptN_none]; exact HS3.out, Hb3.out⟩
      case round =>
        clear HS3 Hb3
        obtain ⟨j, hj, rfl, hjg, hS, hb⟩ := hrel
        have HS : Hid (VRow wr sb (ints (nats (keptN zs (wrT p c L hs') (m + 1) j)))) := hS
        have Hb : Hid (Below W1.heap.size W1 wr) := hb
        clear hS hb
        by_cases hjm : j < m
        · have hjc : j < c.length := by rw [Hm.out]; omega
          obtain ⟨⟨hB3, hV3, hR3, hX3⟩, _, k1, k2, k3⟩ := HK.out _ Hb.out
          have c0 := hB3.at0
          have cz := hB3.1
          obtain ⟨v0, _⟩ := hV3.int j (by rw [hl']; exact hjc)
          have vz := hV3.1
          obtain ⟨bc, offc, rfl, hltc, m0, m1⟩ := hX3.at j hjc
          obtain ⟨op, Hop⟩ : ∃ x : Int, Hid (x = (c[j]'hjc).1) := ⟨_, rfl⟩
          obtain ⟨y, Hy⟩ : ∃ x : Int, Hid (x = (c[j]'hjc).2) := ⟨_, rfl⟩
          rw [← Hop.out] at m0
          rw [← Hy.out] at m1
          have Hins : Hid (insAt c j = (op, y)) := by rw [insAt_get c j hjc, Hop.out, Hy.out]; exact rfl
          clear hB3 hV3 hR3 hX3
          by_cases h0 : 0 ≤ hs'.getD j 0
          · obtain ⟨hh, hhe⟩ := Int.eq_ofNat_of_zero_le h0
            have hh8 : hh ≤ 8 := by have := HF.out.range j hjc; omega
            rw [hhe] at v0
            obtain ⟨N, HN⟩ : ∃ N : Nat, Hid (N = L + hh) := ⟨_, rfl⟩
            have n1 : ((L : Int) + (hh : Int)) = (N : Int) := by rw [HN.out]; omega
            obtain ⟨s0, s1⟩ := HS.out.nat (j + 1) (by rw [keptN_length]; omega)
            have hkg : (keptN zs (wrT p c L hs') (m + 1) j).getD (j + 1) 0 = zs.getD (j + 1) 0 := by rw [keptN_get _ _ _ _ _ (by omega), if_neg (by omega), Nat.or_zero]
            rw [hkg] at s0
            have sz := HS.out.1
            go_upto_region 11 with fail
            have q1 : IntKind.i64.wrap ((j : Int) + 1) = (j : Int) + 1 := by rw [i64_wrap64]; unfold wrap64; omega
            have q2 : (0 : Int) ≤ (j : Int) + 1 := by omega
            have q3 : (j : Int) + 1 < (m : Int) + 1 := by omega
            have q4 : ((j : Int) + 1).toNat = j + 1 := by omega
            have q5 : (j : Int) < (m : Int) + 1 := by omega
            have q6 : IntKind.i64.wrap ((L : Int) + (hh : Int)) = (N : Int) := by rw [n1, i64_wrap64]; unfold wrap64; have := HN.out; have := HF.out.l8; omega
            have q7 : (j : Int) < (c.length : Int) := by omega
            clear n1 c0 cz k1 m0 m1 v0
            have t0 := HF.out.takes j hjc h0
            have u0 := HF.out.puts j hjc h0
            obtain ⟨i1, i2, i3, i4⟩ := HF.out.lo_hi hjc h0
            have hsl := HF.out.slot j hjc
            have hup' : upM p c L hs' j = loM p c L hs' j + (putsM (insAt c j).1).toNat := rfl
            have hhi' : hiM L hs' j = (L + hs'.getD j 0).toNat := rfl
            have hlo' : loM p c L hs' j = (L + hs'.getD j 0 - takesM p (insAt c j).1 (insAt c j).2).toNat := rfl
            have hwr : wrT p c L hs' j = wsOf (insAt c j).1 (insAt c j).2 (loM p c L hs' j) (upM p c L hs' j) := if_pos h0
            have o1 := or_i64 (zs.getD (j + 1) 0) (wrT p c L hs' j) (Hzlt.out _ (by omega)) (Hwlt.out j (by omega))
            rw [Hins.out] at t0 u0 hsl hup' hlo' hwr
            rw [hhe] at t0 u0 hhi' hlo'
            simp only at t0 u0 hsl hup' hlo' hwr
            have hl8 := HF.out.l8
            have hNv := HN.out
            have hhN : hiM L hs' j = N := by rw [hhi', hNv]; omega
            rw [hhN] at i1 i2
            obtain ⟨t, ht⟩ := Int.eq_ofNat_of_zero_le t0.1
            obtain ⟨u, hu⟩ := Int.eq_ofNat_of_zero_le u0.1
            rw [ht] at t0 u0 hlo'
            rw [hu] at u0 hup'
            have HWr : Hid (∀ W, Below wr.heap.size wr W → Calls Tryd.prog 28 #[.agg #[.slice (some ⟨b0, off0, none⟩) p.length cap], .agg #[.int .i64 op, .int .i64 y], .int .i64 (N : Int)] W fun e w' => e = .returned (.int .i64 ((wrT p c L hs' j : Nat) : Int)) ∧ Below wr.heap.size wr w') := fun W hW => by
              have hc := specWrites (.slice (some ⟨b0, off0, none⟩) p.length cap) p op y t u N (loM p c L hs' j) (upM p c L hs' j) W ((HK.out _ Hb.out).1.2.2.1.below hW) ht hu (by omega) (by omega) i2 i3 (fun h => by have := hsl h; omega)
              rw [← hwr] at hc
              exact hc.mono fun e w' h => ⟨h.1, hW.trans (h.2.mono hW.size)⟩
            have HKp : Hid (∀ W, Below W1.heap.size W1 W → W.cell? ⟨w.heap.size, 0, none⟩ = some (.slice (some ⟨b0, off0, none⟩) p.length cap) ∧ W.cell? ⟨bc, offc + j * 2, none⟩ = some (.int .i64 op) ∧ W.cell? ⟨bc, offc + j * 2 + 1, none⟩ = some (.int .i64 y) ∧ W.cell? ⟨b0, off0 + k * 3 + 1, none⟩ = some (.int .i64 L) ∧ W.cell? ⟨bh, j, none⟩ = some (.int .i64 hh)) := fun W hW => by
              obtain ⟨⟨hB3, hV3, _, hX3⟩, _, k1, _, _⟩ := HK.out _ hW
              obtain ⟨bc', offc', he', _, m0, m1⟩ := hX3.at j hjc
              simp only [Option.some.injEq, Addr.mk.injEq, and_true] at he'
              obtain ⟨rfl, rfl⟩ := he'
              rw [← Hop.out] at m0
              rw [← Hy.out] at m1
              obtain ⟨v0, _⟩ := hV3.int j (by rw [hl']; exact hjc)
              rw [hhe] at v0
              exact ⟨hB3.at0, m0, m1, k1, v0⟩
            obtain ⟨WS, HWS⟩ : ∃ x : Nat, Hid (x = wrT p c L hs' j) := ⟨_, rfl⟩
            obtain ⟨Z, HZ⟩ : ∃ x : Nat, Hid (x = zs.getD (j + 1) 0) := ⟨_, rfl⟩
            have HE0 : Hid (∀ W, Below wr.heap.size wr W → VRow (W.setCell ⟨sb, j + 1, none⟩ (.int .i64 ((zs.getD (j + 1) 0 ||| wrT p c L hs' j : Nat) : Int))) sb (ints (nats (keptN zs (wrT p c L hs') (m + 1) (j + 1)))) ∧ Below W1.heap.size W1 (W.setCell ⟨sb, j + 1, none⟩ (.int .i64 ((zs.getD (j + 1) 0 ||| wrT p c L hs' j : Nat) : Int)))) := fun W hW => by
              refine ⟨?_, (Hb.out.trans (hW.mono Hb.out.size)).setCell (by exact Hsb.out) _⟩
              have := (HS.out.below hW).setNat (j + 1) (zs.getD (j + 1) 0 ||| wrT p c L hs' j) (by rw [keptN_length]; omega)
              rwa [keptN_step] at this
            rw [← HWS.out] at HWr o1 HE0
            rw [← HZ.out] at o1 s0 HE0
            obtain ⟨D, HD⟩ : ∃ x : Nat, Hid (x = Z ||| WS) := ⟨_, rfl⟩
            rw [← HD.out] at o1 HE0
            have HQ : Hid (∀ W, Below wr.heap.size wr W → W.cell? ⟨sb, j + 1, none⟩ = some (.int .i64 (Z : Int)) ∧ W.frozen? ⟨sb, j + 1, none⟩ = false ∧ sb < W.heap.size) := fun W hW => by
              have h1 := (HS.out.below hW).2 (j + 1) (by simp [ints, nats, keptN_length]; omega)
              have h2 := (HS.out.below hW).nat (j + 1) (by rw [keptN_length]; omega)
              rw [hkg, ← HZ.out] at h2
              exact ⟨h2.1, h2.2, (HS.out.below hW).1⟩
            clear t0 u0 i1 i2 i3 i4 hsl hup' hhi' hlo' hwr hhN ht hu hNv hl8 hkg
            have hb0 : Below wr.heap.size wr wr.drew := (Below.refl _ _).drew
            refine wp_region_held_drew (S := fun w' => w'.cell? ⟨w.heap.size, 0, none⟩ = some (.slice (some ⟨b0, off0, none⟩) p.length cap) ∧ w'.cell? ⟨bc, offc + j * 2, none⟩ = some (.int .i64 op) ∧ w'.cell? ⟨bc, offc + j * 2 + 1, none⟩ = some (.int .i64 y) ∧ w'.cell? ⟨b0, off0 + k * 3 + 1, none⟩ = some (.int .i64 L) ∧ w'.cell? ⟨bh, j, none⟩ = some (.int .i64 hh)) (by kernel_rfl) (HKp.out _ (Hb.out.trans (hb0.mono Hb.out.size))) (fun hHeld => ?_)
            refine wpAnyH_take (i := 0) (v := ?v0) rfl (by kernel_rfl) (by kernel_rfl) (by kernel_rfl) (fun _ _ _ h => h) (Or.inl ⟨by rfl, ?h0⟩) (by assumption) ?r0
            case h0 => (intro wS hSw; (try dsimp only at hSw); go_simp; try with_reducible rfl)
            case r0 =>
              simp only [Act.put, List.setIfInBounds_toArray]
              refine wpAnyH_take (i := 1) (v := ?v1) rfl (by kernel_rfl) (by kernel_rfl) (by kernel_rfl) (fun _ _ _ h => h) (Or.inl ⟨by rfl, ?h1⟩) (by assumption) ?r1
              case h1 => (intro wS hSw; (try dsimp only at hSw); go_simp; try with_reducible rfl)
              case r1 =>
                try simp only [Act.put]
                refine wpAnyH_take (i := 2) (v := ?v2) rfl (by kernel_rfl) (by kernel_rfl) (by kernel_rfl) (fun _ _ _ h => h) (Or.inl ⟨by rfl, ?h2⟩) (by assumption) ?r2
                case h2 => (intro wS hSw; (try dsimp only at hSw); go_simp; try with_reducible rfl)
                case r2 =>
                  try simp only [Act.put]
                  refine wpAnyH_take (i := 3) (v := ?v3) rfl (by kernel_rfl) (by kernel_rfl) (by kernel_rfl) (fun _ _ _ h => h) (Or.inl ⟨by rfl, ?h3⟩) (by assumption) ?r3
                  case h3 => (intro wS hSw; (try dsimp only at hSw); go_simp; try with_reducible rfl)
                  case r3 =>
                    try simp only [Act.put]
                    refine wpAnyH_take (i := 4) (v := ?v4) rfl (by kernel_rfl) (by kernel_rfl) (by kernel_rfl) (fun _ _ _ h => h) (Or.inl ⟨by rfl, ?h4⟩) (by assumption) ?r4
                    case h4 => (intro wS hSw; (try dsimp only at hSw); go_simp; try with_reducible rfl)
                    case r4 =>
                      try simp only [Act.put]
                      refine wpAnyH_take (i := 5) (v := ?v5) rfl (by kernel_rfl) (by kernel_rfl) (by kernel_rfl) (fun _ _ _ h => h) (Or.inl ⟨by rfl, ?h5⟩) (by assumption) ?r5
                      case h5 => (intro wS hSw; (try dsimp only at hSw); go_simp; try with_reducible rfl)
                      case r5 =>
                        try simp only [Act.put]
                        refine wpAnyH_take (i := 6) (v := ?v6) rfl (by kernel_rfl) (by kernel_rfl) (by kernel_rfl) (fun _ _ _ h => h) (Or.inl ⟨by rfl, ?h6⟩) (by assumption) ?r6
                        case h6 => (intro wS hSw; (try dsimp only at hSw); go_simp; try with_reducible rfl)
                        case r6 =>
                          try simp only [Act.put]
                          refine wpAnyH_take (i := 8) (v := ?v8) rfl (by kernel_rfl) (by kernel_rfl) (by kernel_rfl) (fun _ _ _ h => h) (Or.inl ⟨by rfl, ?h8⟩) (by assumption) ?r8
                          case h8 => (intro wS hSw; (try dsimp only at hSw); go_simp; try with_reducible rfl)
                          case r8 =>
                            try simp only [Act.put]
                            refine wpAnyH_take (i := 9) (v := ?v9) rfl (by kernel_rfl) (by kernel_rfl) (by kernel_rfl) (fun _ _ _ h => h) (Or.inl ⟨by rfl, ?h9⟩) (by assumption) ?r9
                            case h9 => (intro wS hSw; (try dsimp only at hSw); go_simp; try with_reducible rfl)
                            case r9 =>
                              try simp only [Act.put]
                              refine wpAnyH_take (i := 10) (v := ?v10) rfl (by kernel_rfl) (by kernel_rfl) (by kernel_rfl) (fun _ _ _ h => h) (Or.inl ⟨by rfl, ?h10⟩) (by assumption) ?r10
                              case h10 => (intro wS hSw; (try dsimp only at hSw); go_simp; try with_reducible rfl)
                              case r10 =>
                                try simp only [Act.put]
                                refine wpAnyH_take (i := 11) (v := ?v11) rfl (by kernel_rfl) (by kernel_rfl) (by kernel_rfl) (fun _ _ _ h => h) (Or.inl ⟨by rfl, ?h11⟩) (by assumption) ?r11
                                case h11 => (intro wS hSw; (try dsimp only at hSw); go_simp; try with_reducible rfl)
                                case r11 =>
                                  try simp only [Act.put]
                                  refine wpAnyH_take (i := 12) (v := ?v12) rfl (by kernel_rfl) (by kernel_rfl) (by kernel_rfl) (fun _ _ _ h => h) (Or.inl ⟨by rfl, ?h12⟩) (by assumption) ?r12
                                  case h12 => (intro wS hSw; (try dsimp only at hSw); go_simp; try with_reducible rfl)
                                  case r12 =>
                                    try simp only [Act.put]
                                    refine wpAnyH_take (i := 13) (v := ?v13) rfl (by kernel_rfl) (by kernel_rfl) (by kernel_rfl) (fun _ _ _ h => h) (Or.inl ⟨by rfl, ?h13⟩) (by assumption) ?r13
                                    case h13 => (intro wS hSw; (try dsimp only at hSw); go_simp; try with_reducible rfl)
                                    case r13 =>
                                      try simp only [Act.put]
                                      refine wpAnyH_take (i := 14) (v := ?v14) rfl (by kernel_rfl) (by kernel_rfl) (by kernel_rfl) (fun _ _ _ h => h) (Or.inl ⟨by rfl, ?h14⟩) (by assumption) ?r14
                                      case h14 => (intro wS hSw; (try dsimp only at hSw); go_simp; try with_reducible rfl)
                                      case r14 =>
                                        try simp only [Act.put]
                                        refine wpAnyH_take (i := 15) (v := ?v15) rfl (by kernel_rfl) (by kernel_rfl) (by kernel_rfl) (fun _ _ _ h => h) (Or.inl ⟨by rfl, ?h15⟩) (by assumption) ?r15
                                        case h15 => (intro wS hSw; (try dsimp only at hSw); go_simp; try with_reducible rfl)
                                        case r15 =>
                                          try simp only [Act.put]
                                          refine wpAnyH_take (i := 16) (v := ?v16) rfl (by kernel_rfl) (by kernel_rfl) (by kernel_rfl) (fun _ _ _ h => h) (Or.inl ⟨by rfl, ?h16⟩) (by assumption) ?r16
                                          case h16 => (intro wS hSw; (try dsimp only at hSw); go_simp; try with_reducible rfl)
                                          case r16 =>
                                            try simp only [Act.put]
                                            refine wpAnyH_take (i := 17) (v := ?v17) rfl (by kernel_rfl) (by kernel_rfl) (by kernel_rfl) (fun _ _ _ h => h) (Or.inl ⟨by rfl, ?h17⟩) (by assumption) ?r17
                                            case h17 => (intro wS hSw; (try dsimp only at hSw); go_simp; try with_reducible rfl)
                                            case r17 =>
                                              try simp only [Act.put]
                                              refine wpAnyH_take (i := 18) (v := ?v18) rfl (by kernel_rfl) (by kernel_rfl) (by kernel_rfl) (fun _ _ _ h => h) (Or.inl ⟨by rfl, ?h18⟩) (by assumption) ?r18
                                              case h18 => (intro wS hSw; (try dsimp only at hSw); go_simp; try with_reducible rfl)
                                              case r18 =>
                                                try simp only [Act.put]
                                                refine wpAnyH_take (i := 19) (v := ?v19) rfl (by kernel_rfl) (by kernel_rfl) (by kernel_rfl) (fun _ _ _ h => h) (Or.inl ⟨by rfl, ?h19⟩) (by assumption) ?r19
                                                case h19 => (intro wS hSw; (try dsimp only at hSw); go_simp; try with_reducible rfl)
                                                case r19 =>
                                                  try simp only [Act.put]
                                                  refine wpAnyH_take (i := 20) (v := ?v20) rfl (by kernel_rfl) (by kernel_rfl) (by kernel_rfl) (fun _ _ _ h => h) (Or.inl ⟨by rfl, ?h20⟩) (by assumption) ?r20
                                                  case h20 => (intro wS hSw; (try dsimp only at hSw); go_simp; try with_reducible rfl)
                                                  case r20 =>
                                                    try simp only [Act.put]
                                                    refine wpAnyH_take (i := 21) (v := ?v21) rfl (by kernel_rfl) (by kernel_rfl) (by kernel_rfl) (fun _ _ _ h => h) (Or.inl ⟨by rfl, ?h21⟩) (by assumption) ?r21
                                                    case h21 => (intro wS hSw; (try dsimp only at hSw); go_simp; try with_reducible rfl)
                                                    case r21 =>
                                                      try simp only [Act.put]
                                                      refine wpAnyH_take (i := 22) (v := ?v22) rfl (by kernel_rfl) (by kernel_rfl) (by kernel_rfl) (fun _ _ _ h => h) (Or.inl ⟨by rfl, ?h22⟩) (by assumption) ?r22
                                                      case h22 => (intro wS hSw; (try dsimp only at hSw); go_simp; try with_reducible rfl)
                                                      case r22 =>
                                                        try simp only [Act.put]
                                                        refine wpAnyH_take (i := 23) (v := ?v23) rfl (by kernel_rfl) (by kernel_rfl) (by kernel_rfl) (fun _ _ _ h => h) (Or.inl ⟨by rfl, ?h23⟩) (by assumption) ?r23
                                                        case h23 => (intro wS hSw; (try dsimp only at hSw); go_simp; try with_reducible rfl)
                                                        case r23 =>
                                                          try simp only [Act.put]
                                                          refine wpAnyH_ready (rs := [7, 24]) (by kernel_rfl) (by simp) ?_
                                                          refine AllReadyH.cons rfl (fun K hK => ?_) (AllReadyH.cons rfl (fun K hK => ?_) AllReadyH.nil)
                                                          · go_simp
                                                            refine hK.out _ _ ?_ (fun hHeld2 => ?_)
                                                            · exact hHeld
                                                            clear hK K
                                                            try simp only [Act.put]
                                                            refine wpAnyH_ready (rs := [24]) (by kernel_rfl) (by simp) ?_
                                                            refine AllReadyH.cons rfl (fun K hK => ?_) AllReadyH.nil
                                                            go_simp
                                                            refine (HWr.out _ hb0).mono ?_
                                                            rintro e wA ⟨rfl, hbA⟩
                                                            obtain ⟨g0, g1, g2⟩ := HQ.out wA hbA
                                                            have hA : Below W1.heap.size W1 wA := Hb.out.trans (hbA.mono Hb.out.size)
                                                            go_wp2_with fail
                                                            refine hK.out _ _ ?_ (fun hHeld3 => ?_)
                                                            · exact HKp.out _ hA
                                                            clear hK K
                                                            try simp only [Act.put]
                                                            refine wpAnyH_take (i := 25) (v := ?v25a) rfl (by kernel_rfl) (by kernel_rfl) (by kernel_rfl) (fun _ _ _ h => h) (Or.inl ⟨by rfl, ?h25a⟩) (by assumption) ?r25a
                                                            case h25a => (intro wS hSw; (try dsimp only at hSw); go_simp; try with_reducible rfl)
                                                            case r25a =>
                                                              try simp only [Act.put]
                                                              refine wpAnyH_take (i := 26) (v := ?v26a) rfl (by kernel_rfl) (by kernel_rfl) (by kernel_rfl) (fun _ _ _ h => h) (Or.inl ⟨by rfl, ?h26a⟩) (by assumption) ?r26a
                                                              case h26a => (intro wS hSw; (try dsimp only at hSw); go_simp; try with_reducible rfl)
                                                              case r26a =>
                                                                try simp only [Act.put]
                                                                refine wpAnyH_ready (rs := [27]) (by kernel_rfl) (by simp) ?_
                                                                refine AllReadyH.cons rfl (fun K hK => ?_) AllReadyH.nil
                                                                go_simp
                                                                refine hK.out _ _ ?_ (fun hHeld9 => ?_)
                                                                · exact HKp.out _ (HE0.out wA hbA).2
                                                                clear hK K
                                                                try simp only [Act.put]
                                                                refine wpAnyH_done (by kernel_rfl) ?_ _
                                                                go_wp2_with fail
                                                                go_roundg (gk - 1)
                                                                case measure => omega
                                                                case rel => exact ⟨j + 1, by omega, by go_num, by omega, (HE0.out wA hbA).1, (HE0.out wA hbA).2⟩
                                                          · go_simp
                                                            refine (HWr.out _ hb0).mono ?_
                                                            rintro e wA ⟨rfl, hbA⟩
                                                            obtain ⟨g0, g1, g2⟩ := HQ.out wA hbA
                                                            have hA : Below W1.heap.size W1 wA := Hb.out.trans (hbA.mono Hb.out.size)
                                                            go_wp2_with fail
                                                            refine hK.out _ _ ?_ (fun hHeld3 => ?_)
                                                            · exact HKp.out _ hA
                                                            clear hK K
                                                            try simp only [Act.put]
                                                            refine wpAnyH_ready (rs := [7]) (by kernel_rfl) (by simp) ?_
                                                            refine AllReadyH.cons rfl (fun K hK => ?_) AllReadyH.nil
                                                            go_simp
                                                            refine hK.out _ _ ?_ (fun hHeld4 => ?_)
                                                            · exact hHeld3
                                                            clear hK K
                                                            try simp only [Act.put]
                                                            refine wpAnyH_take (i := 25) (v := ?v25b) rfl (by kernel_rfl) (by kernel_rfl) (by kernel_rfl) (fun _ _ _ h => h) (Or.inl ⟨by rfl, ?h25b⟩) (by assumption) ?r25b
                                                            case h25b => (intro wS hSw; (try dsimp only at hSw); go_simp; try with_reducible rfl)
                                                            case r25b =>
                                                              try simp only [Act.put]
                                                              refine wpAnyH_take (i := 26) (v := ?v26b) rfl (by kernel_rfl) (by kernel_rfl) (by kernel_rfl) (fun _ _ _ h => h) (Or.inl ⟨by rfl, ?h26b⟩) (by assumption) ?r26b
                                                              case h26b => (intro wS hSw; (try dsimp only at hSw); go_simp; try with_reducible rfl)
                                                              case r26b =>
                                                                try simp only [Act.put]
                                                                refine wpAnyH_ready (rs := [27]) (by kernel_rfl) (by simp) ?_
                                                                refine AllReadyH.cons rfl (fun K hK => ?_) AllReadyH.nil
                                                                go_simp
                                                                refine hK.out _ _ ?_ (fun hHeld9 => ?_)
                                                                · exact HKp.out _ (HE0.out wA hbA).2
                                                                clear hK K
                                                                try simp only [Act.put]
                                                                refine wpAnyH_done (by kernel_rfl) ?_ _
                                                                go_wp2_with fail
                                                                go_roundg (gk - 1)
                                                                case measure => omega
                                                                case rel => exact ⟨j + 1, by omega, by go_num, by omega, (HE0.out wA hbA).1, (HE0.out wA hbA).2⟩
          · obtain ⟨z, Hz⟩ : ∃ z, Hid (z = hs'.getD j 0) := ⟨_, rfl⟩
            rw [← Hz.out] at v0
            have hneg : z < 0 := by rw [Hz.out]; omega
            have hge : decide (z ≥ 0) = false := by simp; omega
            have hw0 : wrT p c L hs' j = 0 := if_neg h0
            have HS' : Hid (VRow wr sb (ints (nats (keptN zs (wrT p c L hs') (m + 1) (j + 1))))) := by rw [keptN_skip _ _ _ _ hw0]; exact HS.out
            clear c0 cz k1 k2 k3 m0 m1 hw0 h0
            go_wp2_with fail
            go_roundg (gk - 1)
            case measure => omega
            case rel => exact ⟨j + 1, by omega, by go_num, by omega, HS'.out, Hb.out⟩
        · have hje : j = m := by omega
          subst hje
          obtain ⟨ks, Hks⟩ : ∃ ks, Hid (ks = keptN zs (wrT p c L hs') (j + 1) j) := ⟨_, rfl⟩
          have HAA : Hid (RngAnsS p k (rngs ks (j + 1) 16)) := by rw [Hks.out]; exact HAns.out zs HA.out
          have Hklt : Hid (∀ a, a < j + 1 → ks.getD a 0 < 65536) := fun a ha => by rw [Hks.out]; exact keptN_lt Hzlt.out Hwlt.out a ha
          have Hkl : Hid (ks.length = j + 1) := by rw [Hks.out]; exact keptN_length _ _ _ _
          rw [← Hks.out] at HS
          have hbW := (HK.out _ Hb.out).2.1
          have HO3 : Hid (RngV w.heap.size wr (.slice (some ⟨w.heap.size + 1, 0, none⟩) 0 0) []) := hbW.2
          have Hbw : Hid (Below w.heap.size w wr) := hbW.1
          have hsb1 : w.heap.size + 1 ≠ sb := by have := Hsb.out; omega
          clear hbW
          obtain ⟨i1, hi1, hy0, hy1, hy2⟩ := info_parts Tryd.infoRg
          have hcj : (c.length : Int) = ((j + 1 : Nat) : Int) := by rw [Hm.out]
          go_wp2_with fail
          clear hcj
          go_loopg [5, 11] 16 (fun g x i wr => ∃ s : Nat, s ≤ 16 ∧ i = .int .i64 (s : Int) ∧ 16 ≤ s + g ∧ VRow wr sb (ints (nats ks)) ∧ Below w.heap.size w wr ∧ RngV w.heap.size wr x (rngs ks (j + 1) s) ∧ ∀ g, x.ownBlock = some g → g ≠ sb)
          case atStart => exact ⟨0, Nat.zero_le _, rfl, by omega, HS.out, Hbw.out, HO3.out, fun g hg => by simp only [Value.ownBlock, Option.some.injEq] at hg; omega⟩
          case round =>
            clear HS Hbw HO3
            obtain ⟨s, hs16, rfl, hsg, hS, hb, hV, hfar⟩ := hrel
            obtain ⟨g1, Hg1⟩ : ∃ g1, Hid (g1 = gk) := ⟨_, rfl⟩
            rw [← Hg1.out] at hsg
            have HS : Hid (VRow wr sb (ints (nats ks))) := hS
            have Hbw : Hid (Below w.heap.size w wr) := hb
            have HV : Hid (RngV w.heap.size wr _ (rngs ks (j + 1) s)) := hV
            have Hfar : Hid (∀ g, Value.ownBlock _ = some g → g ≠ sb) := hfar
            obtain ⟨A6, cap6, rfl⟩ := hV.form
            clear hS hb hV hfar
            by_cases hsl : s < 16
            · have X1 : Hid (VRow (wr.alloc (.cells #[.int .i64 (s : Int), .int .i64 (-1), .int .i64 0] 34)) wr.heap.size (ints [(s : Int), -1, 0])) := vrow_new wr #[.int .i64 (s : Int), .int .i64 (-1), .int .i64 0] 34
              have X2 : Hid (Below wr.heap.size wr (wr.alloc (.cells #[.int .i64 (s : Int), .int .i64 (-1), .int .i64 0] 34))) := (Below.refl _ _).alloc (Nat.le_refl _) _
              obtain ⟨U, HU⟩ : ∃ U, Hid (U = wr) := ⟨_, rfl⟩
              have hsI : (s : Int) < 16 := by omega
              go_wp2_with fail
              rw [← HU.out] at X1 X2 HS Hbw HV ⊢
              have Hsl : Hid (s < 16) := hsl
              clear hsl
              go_loopg [13] (j + 1) (fun g i wr => ∃ (q : Nat) (xs : List Int), q ≤ j + 1 ∧ i = .int .i64 (q : Int) ∧ j + 1 ≤ q + g ∧ VRow wr U.heap.size (ints xs) ∧ Below U.heap.size U wr ∧ SpanS s (spanN s ks q) xs)
              case atStart => exact ⟨0, _, Nat.zero_le _, rfl, by omega, X1.out, X2.out, .inl ⟨rfl, rfl⟩⟩
              case round =>
                clear X1 X2
                obtain ⟨q, xs, hq, rfl, hqg, hX, hbU, hsp⟩ := hrel
                have HX : Hid (VRow wr U.heap.size (ints xs)) := hX
                have HbU : Hid (Below U.heap.size U wr) := hbU
                have hx3 : ∃ a0 a1 a2, xs = [a0, a1, a2] := by
                  rcases hsp with ⟨_, rfl⟩ | ⟨f, t, _, rfl⟩ <;> exact ⟨_, _, _, rfl⟩
                have Hsp : Hid (SpanS s (spanN s ks q) xs) := hsp
                obtain ⟨a0, a1, a2, rfl⟩ := hx3
                clear hX hbU hsp
                by_cases hqn : q < j + 1
                · obtain ⟨r0, _⟩ := (HS.out.below HbU.out).nat q (by rw [Hkl.out]; exact hqn)
                  have rz := (HS.out.below HbU.out).1
                  have hkl := Hklt.out q hqn
                  have o1 := and_i64 (ks.getD q 0) (2 ^ s) hkl (pow_small Hsl.out)
                  rw [bit_and] at o1
                  have HBt : Hid (∀ W, Calls Tryd.prog 29 #[.int .i64 (s : Int)] W fun e w' => e = .returned (.int .i64 ((2 ^ s : Nat) : Int)) ∧ w' = W) := fun W => specBit s (by have := Hsl.out; omega) W
                  have hpos : 0 < 2 ^ s := Nat.two_pow_pos s
                  have hsucc : spanN s ks (q + 1) = if (ks.getD q 0).testBit s = true then (match spanN s ks q with | none => some (q, q) | some (f, _) => some (f, q)) else spanN s ks q := rfl
                  obtain ⟨P2, HP2⟩ : ∃ P2 : Nat, Hid (P2 = 2 ^ s) := ⟨_, rfl⟩
                  rw [← HP2.out] at o1 HBt hpos
                  obtain ⟨K, HKK⟩ : ∃ K : Nat, Hid (K = ks.getD q 0) := ⟨_, rfl⟩
                  rw [← HKK.out] at o1 r0 hsucc
                  have hne0 : ((P2 : Int) != 0) = true := by simp; omega
                  cases hbit : K.testBit s with
                  | false =>
                    rw [hbit] at o1 hsucc
                    rw [if_neg (by simp)] at o1 hsucc
                    have HA2 : Hid (SpanS s (spanN s ks (q + 1)) [a0, a1, a2]) := by rw [hsucc]; exact Hsp.out
                    have HVd : Hid (VRow wr.drew U.heap.size (ints [a0, a1, a2])) := HX.out.drewn
                    have HBd : Hid (Below U.heap.size U wr.drew) := HbU.out.drew
                    clear hsucc hbit
                    go_upto_region 19 with fail
                    go_region_held3 (fun w' => w'.cell? ⟨sb, q, none⟩ = some (.int .i64 (K : Int))) (first | exact r0 | assumption) (first | (go_at_call 29; refine Calls.mono (HBt.out _) ?_; rintro e wP ⟨rfl, hwP⟩; subst wP))
                    all_goals
                      go_wp2_with fail
                      go_roundg (gk - 1)
                      case measure => omega
                      case rel => exact ⟨q + 1, _, by omega, by go_num, by omega, HVd.out, HBd.out, HA2.out⟩
                  | true =>
                    rw [hbit] at o1 hsucc
                    rw [if_pos rfl] at o1 hsucc
                    clear hbit
                    go_upto_region 19 with fail
                    have c1 := HX.out.at1
                    have c2 := HX.out.at2
                    have f1 := (HX.out.2 1 (by simp [ints])).2
                    have f2 := (HX.out.2 2 (by simp [ints])).2
                    have cz := HX.out.1
                    have hsp := Hsp.out
                    rcases hsp with ⟨hn0, he⟩ | ⟨f, t, hn0, he⟩
                    · rw [hn0] at hsucc
                      simp only [List.cons.injEq, and_true] at he
                      obtain ⟨rfl, rfl, rfl⟩ := he
                      have HA2 : Hid (SpanS s (spanN s ks (q + 1)) [(s : Int), (q : Int), (q : Int)]) := .inr ⟨q, q, hsucc, rfl⟩
                      have HV3 : Hid (VRow (((wr.setCell ⟨U.heap.size, 2, none⟩ (.int .i64 (q : Int))).setCell ⟨U.heap.size, 1, none⟩ (.int .i64 (q : Int))).drew) U.heap.size (ints [(s : Int), (q : Int), (q : Int)])) := ((HX.out.set_at 2 (.int .i64 (q : Int)) (by simp [ints])).set_at 1 (.int .i64 (q : Int)) (by simp [ints])).drewn
                      have HB3 : Hid (Below U.heap.size U (((wr.setCell ⟨U.heap.size, 2, none⟩ (.int .i64 (q : Int))).setCell ⟨U.heap.size, 1, none⟩ (.int .i64 (q : Int))).drew)) := ((HbU.out.setCell (Nat.le_refl _) _).setCell (Nat.le_refl _) _).drew
                      clear hsucc hn0 Hsp HX HbU
                      go_region_held3 (fun w' => w'.cell? ⟨sb, q, none⟩ = some (.int .i64 (K : Int))) (first | exact r0 | assumption) (first | (go_at_call 29; refine Calls.mono (HBt.out _) ?_; rintro e wP ⟨rfl, hwP⟩; subst wP))
                      all_goals
                        go_wp2_with fail
                        go_roundg (gk - 1)
                        case measure => omega
                        case rel => exact ⟨q + 1, _, by omega, by go_num, by omega, HV3.out, HB3.out, HA2.out⟩
                    · rw [hn0] at hsucc
                      simp only [List.cons.injEq, and_true] at he
                      obtain ⟨rfl, rfl, rfl⟩ := he
                      have HA2 : Hid (SpanS s (spanN s ks (q + 1)) [(s : Int), (f : Int), (q : Int)]) := .inr ⟨f, q, hsucc, rfl⟩
                      have HV3 : Hid (VRow ((wr.setCell ⟨U.heap.size, 2, none⟩ (.int .i64 (q : Int))).drew) U.heap.size (ints [(s : Int), (f : Int), (q : Int)])) := (HX.out.set_at 2 (.int .i64 (q : Int)) (by simp [ints])).drewn
                      have HB3 : Hid (Below U.heap.size U ((wr.setCell ⟨U.heap.size, 2, none⟩ (.int .i64 (q : Int))).drew)) := (HbU.out.setCell (Nat.le_refl _) _).drew
                      have hf0 : decide ((f : Int) < 0) = false := by simp
                      clear hsucc hn0 Hsp HX HbU
                      go_region_held3 (fun w' => w'.cell? ⟨sb, q, none⟩ = some (.int .i64 (K : Int))) (first | exact r0 | assumption) (first | (go_at_call 29; refine Calls.mono (HBt.out _) ?_; rintro e wP ⟨rfl, hwP⟩; subst wP))
                      all_goals
                        go_wp2_with fail
                        go_roundg (gk - 1)
                        case measure => omega
                        case rel => exact ⟨q + 1, _, by omega, by go_num, by omega, HV3.out, HB3.out, HA2.out⟩
                · have hqe : q = j + 1 := by omega
                  subst hqe
                  have c0 := HX.out.at0
                  have c1 := HX.out.at1
                  have c2 := HX.out.at2
                  have cz := HX.out.1
                  have hsp := Hsp.out
                  have HS6 : Hid (VRow wr sb (ints (nats ks))) := HS.out.below HbU.out
                  have Hb6 : Hid (Below w.heap.size w wr) := Hbw.out.trans (HbU.out.mono Hbw.out.size)
                  have HV6 : Hid (RngV w.heap.size wr (.slice A6 (rngs ks (j + 1) s).length cap6) (rngs ks (j + 1) s)) := HV.out.below HbU.out
                  rcases hsp with ⟨hn0, he⟩ | ⟨f, t, hn0, he⟩
                  · simp only [List.cons.injEq, and_true] at he
                    obtain ⟨rfl, rfl, rfl⟩ := he
                    have Hr : Hid (rngs ks (j + 1) (s + 1) = rngs ks (j + 1) s) := rngs_none ks (j + 1) s hn0
                    clear hn0 Hsp HX HbU HS Hbw HV
                    go_wp2_with fail
                    go_roundg (g1 - 1)
                    case measure => have := Hg1.out; omega
                    case rel => exact ⟨s + 1, by have := Hsl.out; omega, by go_num, by omega, HS6.out, Hb6.out, by rw [Hr.out]; exact HV6.out, Hfar.out⟩
                  · simp only [List.cons.injEq, and_true] at he
                    obtain ⟨rfl, rfl, rfl⟩ := he
                    have Hr : Hid (rngs ks (j + 1) (s + 1) = rngs ks (j + 1) s ++ [(s, f, t)]) := rngs_some ks (j + 1) s f t hn0
                    have hrl : (rngs ks (j + 1) s).length ≤ 16 := by have := rngs_len ks (j + 1) s; have := Hsl.out; omega
                    obtain ⟨rs, Hrs⟩ : ∃ rs, Hid (rs = rngs ks (j + 1) s) := ⟨_, rfl⟩
                    rw [← Hrs.out] at HV6 Hr hrl Hfar ⊢
                    have hwz : w.heap.size ≤ wr.heap.size := Hb6.out.size
                    have hsz : sb < wr.heap.size := HS6.out.1
                    clear hn0 Hsp HX HbU HS Hbw HV
                    go_wp2_with (at_builtin; refine wpList_append_own_at _ rfl _ _ 30 rfl w.heap.size 34 i1 (.agg #[.int .i64 0, .int .i64 0, .int .i64 0]) 3 24 Tryd.underlying30 hi1 hy0 hy1 hy2 rfl (by decide) _ _ _ rfl (HV6.out.alloc _) ⟨_, 0, none⟩ 1 1 [.int .i64 (s : Int), .int .i64 (f : Int), .int .i64 (t : Int)] rfl rfl (three_cells _ _ _ _ _ _ rfl) ?c2 ?c3 ?c4 ?c5 ?_)
                    case c2 => intro u hu; simp at hu; rcases hu with rfl | rfl | rfl <;> rfl
                    case c3 => unfold maxLen; omega
                    case c4 => omega
                    case c5 => simp; omega
                    intro v' w6 hown hg hnil hat
                    have HV7 : Hid (RngV w.heap.size w6 v' (rngs ks (j + 1) (s + 1))) := by
                      rw [Hr.out]
                      show w6.ownsRow _ _ _ _ _ _
                      rw [rngCells_snoc, List.length_append]
                      exact hown
                    have Hb7 : Hid (Below w.heap.size w w6) := (Hb6.out.alloc Hb6.out.size _).grown hg (by simp; omega) (fun k hk => (HV6.out.lt k hk).1)
                    have HS7 : Hid (VRow w6 sb (ints (nats ks))) := (HS6.out.below ((Below.refl _ _).alloc (Nat.le_refl _) _)).grown hg (fun e => Hfar.out sb e.symm rfl)
                    have Hfar7 : Hid (∀ g, v'.ownBlock = some g → g ≠ sb) := fun g hg' => by
                      rcases hat with h | h
                      · rw [h] at hg'; exact Hfar.out g hg'
                      · rw [h] at hg'; simp at hg'; omega
                    obtain ⟨A7, cap7, rfl⟩ := HV7.out.form
                    clear hown hg hnil hat HS6 Hb6 HV6 Hfar
                    go_wp2_with fail
                    go_roundg (g1 - 1)
                    case measure => have := Hg1.out; omega
                    case rel => exact ⟨s + 1, by have := Hsl.out; omega, by go_num, by omega, HS7.out, Hb7.out, HV7.out, Hfar7.out⟩
            · have hse : s = 16 := by omega
              subst hse
              go_wp2_with fail
              go_ret
              exact ⟨_, _, rfl, HV.out, HAA.out, Hbw.out⟩
    · have := hrun'.unique Hrun.out
      cases this
end Go.Proofs.YtljhoplcfoiiiaaDoor
