/- laws.FnRanges. laws.FnRanges: the walk. -/
import Derived.Test.YtljhoplcfoiiiaaDoorRngS
import Derived.Test.YtljhoplcfoiiiaaDoorGenOne
import Derived.Test.YtljhoplcfoiiiaaDoorRow8In
import Derived.Test.YtljhoplcfoiiiaaDoorArgsB
namespace Go.Proofs.YtljhoplcfoiiiaaDoor
open Go.RowKit

set_option maxRecDepth 100000 in
set_option maxHeartbeats 3200000 in
theorem drawRanges (v : Value) (zs : List Int) (w : World) (hr : Row8 w.heap.size w v zs) (hz : zs.length ≤ 1048576) :
    Calls Tryd.prog 6 #[v] w fun e w' => ∃ u p f, e = .returned (.tuple #[.agg #[u], .int .i64 f]) ∧ Drawn w.heap.size w' u p ∧ (-1 ≤ f ∧ f ≤ 9) ∧ Below w.heap.size w w' := by
  have Hb0 : Hid (Below w.heap.size w (w.alloc (.cells #[.slice none 0 0] 25))) := (Below.refl _ _).alloc (Nat.le_refl _) _
  have HR0 : Hid (VRow (w.alloc (.cells #[.slice none 0 0] 25)) w.heap.size [.slice none 0 0]) := vrow_new w #[.slice none 0 0] 25
  have Hr : Hid (Row8 (w.alloc (.cells #[.slice none 0 0] 25)).heap.size (w.alloc (.cells #[.slice none 0 0] 25)) v zs) := (hr.below Hb0.out).up (by simp)
  obtain ⟨ad, cap, rfl⟩ := hr.len
  clear hr
  go_enter Tryd.func6, Tryd.ntmps6
  go_wp2_with fail
  refine (drawOne _ zs _ Hr.out hz).mono ?_
  rintro e w1 ⟨u, p, f, rfl, hD, hf, hb1⟩
  have hR1 := HR0.out.below hb1
  obtain ⟨c0, c1⟩ := hR1.2 0 (by simp)
  have c2 := hR1.1
  simp only [List.getElem_cons_zero] at c0
  have HB1 : Hid (Below w.heap.size w w1) := Hb0.out.trans (hb1.mono (by simp))
  obtain ⟨Au, capu, rfl⟩ := hD.1.form
  have x0 : (w1.setCell ⟨w.heap.size, 0, none⟩ (.slice Au p.length capu)).cell? ⟨w.heap.size, 0, none⟩ = some (.slice Au p.length capu) := World.cell?_setCell_same _ _ _ c0
  have HX : Hid (Drawn w.heap.size (w1.setCell ⟨w.heap.size, 0, none⟩ (.slice Au p.length capu)) (.slice Au p.length capu) p) := ⟨(hD.1.set (by simp) _).lower (by simp), hD.2⟩
  clear hD hb1 hR1 Hb0 HR0 Hr
  go_wp2_with fail
  exact bodyPost_ret (v := .tuple #[.agg #[.slice Au p.length capu], .int .i64 f]) (by simp [results, Tryd.results6, go_sem, x0]) rfl ⟨_, p, f, rfl, HX.out, hf, HB1.out.setCell (Nat.le_refl _) _⟩

/-- as many ranges by the one as by the other -/
theorem rng_same {p : List FnM} {f : Int} {rs rs' : List (Nat × Nat × Nat)} (h : RngAns p f rs) (h' : RngAnsS p f rs') : rs.length = rs'.length := by
  rcases h with ⟨a, b, hs, zs, c, F, d, rfl⟩ | ⟨a, rfl⟩
  · rcases h' with ⟨_, _, hs', zs', c', _, d', rfl⟩ | ⟨a', _⟩
    · have e : hs = hs' := by simpa using c.unique c'
      subst e
      have e2 : zs = zs' := d.unique d'
      subst e2
      obtain ⟨cd, hcd⟩ : ∃ cd, cd = (fnAt p f).code := ⟨_, rfl⟩
      obtain ⟨L, hL⟩ : ∃ L, L = (fnAt p f).locals.toNat := ⟨_, rfl⟩
      rw [← hcd, ← hL] at F d ⊢
      have hl8 := F.l8
      have hlive : ∀ a k, a < cd.length → (zs.getD a 0).testBit k = true → k < hiM L hs a ∧ 0 ≤ hs.getD a 0 := fun a k ha hk => by
        have hA := (d.2.2 a k ha).1 hk
        refine ⟨F.live_hi (fun a t k ha h hu hk => (F.kp_hi ha h hu).1 ((F.kp_hi ha h hu).2.2 hk)) ha hA, ?_⟩
        cases hA with
        | read a k h1 => exact (F.rd_hi ha h1).2
        | flow a t k h1 _ _ => exact (F.hi_next ha h1).1
      have hhi : ∀ a, a < cd.length → 0 ≤ hs.getD a 0 → hiM L hs a ≤ L + 8 := fun a ha h0 => by
        have := F.range a ha
        unfold hiM
        omega
      -- what is written by the model lies in the first slots
      have hwS : ∀ a k, a < cd.length → (wrT p cd L hs a).testBit k = true → k < L + 8 := fun a k ha hk => by
        unfold wrT at hk
        split at hk
        · rename_i h0
          obtain ⟨q1, q2, q3, q4⟩ := F.lo_hi ha h0
          have hpu := F.puts a ha h0
          unfold wrS at hk
          split at hk
          · rename_i h3
            have := F.slot a ha (.inr h3)
            rw [Nat.testBit_two_pow] at hk
            simp at hk
            omega
          · have hlu : loM p cd L hs a ≤ upM p cd L hs a := by unfold upM; omega
            rw [mask_bit hlu] at hk
            simp at hk
            have hup : upM p cd L hs a ≤ L + 8 := by
              have := F.takes a ha h0
              unfold upM loM
              omega
            omega
        · simp at hk
      -- what impl counts as written besides is read, so it is live
      have hwI : ∀ a k, a < cd.length → (wrI p cd L hs a).testBit k = true → (wrT p cd L hs a).testBit k = true ∨ (zs.getD a 0).testBit k = true := fun a k ha hk => by
        unfold wrI at hk
        split at hk
        · rename_i h0
          obtain ⟨q1, q2, q3, q4⟩ := F.lo_hi ha h0
          have hlu : loM p cd L hs a ≤ upM p cd L hs a := by unfold upM; omega
          unfold wrT
          rw [if_pos h0]
          unfold wrS
          split at hk
          · rename_i h3
            rw [if_pos h3]; exact .inl hk
          · rename_i h3
            rw [if_neg h3]
            rw [Nat.testBit_or, Bool.or_eq_true] at hk
            rcases hk with hk | hk
            · right
              refine (d.2.2 a k ha).2 (.read a k ?_)
              unfold rdM
              rw [if_pos h0]
              by_cases h2 : (insAt cd a).1 = 2
              · have ht : takesM p (insAt cd a).1 (insAt cd a).2 = 0 := by rw [h2]; rfl
                have : loM p cd L hs a = hiM L hs a := by unfold loM hiM; rw [ht]; simp
                rw [this, mask_none] at hk
                simp at hk
              · rw [if_neg h2]; exact hk
            · exact .inl hk
        · simp at hk
      have hTI : ∀ a k, a < cd.length → (wrT p cd L hs a).testBit k = true → (wrI p cd L hs a).testBit k = true := fun a k ha hk => by
        unfold wrT at hk
        split at hk
        · rename_i h0
          unfold wrI
          rw [if_pos h0]
          unfold wrS at hk
          split at hk
          · rename_i h3; rw [if_pos h3]; exact hk
          · rename_i h3; rw [if_neg h3, Nat.testBit_or, hk, Bool.or_true]
        · simp at hk
      have h16 : 16 = (L + 8) + (8 - L) := by omega
      rw [h16, rngs_more _ _ (L + 8) (8 - L) (fun k hk => ?_)]
      · refine rngs_same _ _ _ _ (fun k hk => ?_)
        rw [spanN_some, spanN_some]
        constructor
        · rintro ⟨a, ha, hb⟩
          rw [keptN_get _ _ _ _ _ ha, Nat.testBit_or, Bool.or_eq_true] at hb
          rcases hb with hb | hb
          · exact ⟨a, ha, by rw [keptN_get _ _ _ _ _ ha, Nat.testBit_or, hb, Bool.true_or]⟩
          · split at hb
            · rename_i hc
              rcases hwI (a - 1) k (by omega) hb with h | h
              · exact ⟨a, ha, by rw [keptN_get _ _ _ _ _ ha, Nat.testBit_or, if_pos hc, h, Bool.or_true]⟩
              · exact ⟨a - 1, by omega, by rw [keptN_get _ _ _ _ _ (by omega), Nat.testBit_or, h, Bool.true_or]⟩
            · simp at hb
        · rintro ⟨a, ha, hb⟩
          rw [keptN_get _ _ _ _ _ ha, Nat.testBit_or, Bool.or_eq_true] at hb
          rcases hb with hb | hb
          · exact ⟨a, ha, by rw [keptN_get _ _ _ _ _ ha, Nat.testBit_or, hb, Bool.true_or]⟩
          · split at hb
            · rename_i hc
              exact ⟨a, ha, by rw [keptN_get _ _ _ _ _ ha, Nat.testBit_or, if_pos hc, hTI (a - 1) k (by omega) hb, Bool.or_true]⟩
            · simp at hb
      · cases hsp : spanN k (keptN zs (wrT p cd L hs) cd.length (cd.length - 1)) cd.length with
        | none => rfl
        | some x =>
          have : (spanN k (keptN zs (wrT p cd L hs) cd.length (cd.length - 1)) cd.length).isSome = true := by rw [hsp]; rfl
          obtain ⟨a, ha, hb⟩ := (spanN_some _ _ _).1 this
          rw [keptN_get _ _ _ _ _ ha, Nat.testBit_or, Bool.or_eq_true] at hb
          rcases hb with hb | hb
          · obtain ⟨h1, h2⟩ := hlive a k ha hb
            have := hhi a ha h2
            omega
          · split at hb
            · have := hwS (a - 1) k (by omega) hb
              omega
            · simp at hb
    · exact absurd ⟨a, b⟩ a'
  · rcases h' with ⟨a', b', _⟩ | ⟨_, rfl⟩
    · exact absurd ⟨a', b'⟩ a
    · rfl

/-- where a slot is live lies in its range -/
theorem rng_in {p : List FnM} {f : Int} {rs : List (Nat × Nat × Nat)} {zs : List Nat} (h : RngAns p f rs) (h' : LiveAns p f zs) (a k : Nat) (ha : a < zs.length) (hb : (zs.getD a 0).testBit k = true) :
    ∃ i, ∃ (hi : i < rs.length), rs[i].1 = k ∧ rs[i].2.1 ≤ a ∧ a ≤ rs[i].2.2 := by
  rcases h with ⟨h1, h2, hs, zs', c, F, d, rfl⟩ | ⟨h1, rfl⟩
  · rcases h' with ⟨_, _, hs', c', d'⟩ | ⟨h3, _⟩
    · have e : hs = hs' := by simpa using c.unique c'
      subst e
      have e2 : zs' = zs := d.unique d'
      subst e2
      have hla : a < (fnAt p f).code.length := by rw [← d.1]; exact ha
      have hk : k < (fnAt p f).locals.toNat + 8 := by
        have hA := (d.2.2 a k hla).1 hb
        have h5 := F.live_hi (fun a t k ha h hu hk => (F.kp_hi ha h hu).1 ((F.kp_hi ha h hu).2.2 hk)) hla hA
        have h6 := F.range a hla
        have h7 : 0 ≤ hs.getD a 0 := by
          cases hA with
          | read a k h1 => exact (F.rd_hi hla h1).2
          | flow a t k h1 _ _ => exact (F.hi_next hla h1).1
        unfold hiM at h5
        omega
      obtain ⟨fr, t, h5, h6, h7⟩ := spanN_in k (keptN zs' (wrI p (fnAt p f).code (fnAt p f).locals.toNat hs) (fnAt p f).code.length ((fnAt p f).code.length - 1)) _ a hla (by rw [keptN_get _ _ _ _ _ hla, Nat.testBit_or, hb, Bool.true_or])
      obtain ⟨i, hi, e⟩ := List.getElem_of_mem (rngs_mem _ _ _ k fr t hk h5)
      exact ⟨i, hi, by rw [e], by rw [e]; exact h6, by rw [e]; exact h7⟩
    · exact absurd ⟨h1, h2⟩ h3
  · rcases h' with ⟨h2, h3, _⟩ | ⟨_, rfl⟩
    · exact absurd ⟨h2, h3⟩ h1
    · simp at ha
end Go.Proofs.YtljhoplcfoiiiaaDoor

namespace Go.Proofs.YtljhoplcfoiiiaaDoor
open Go.RowKit

set_option maxRecDepth 100000 in
set_option maxHeartbeats 6400000 in
theorem lawRanges (v0 : Value) (w : World) (i0 : IsBytes w v0) (tab : Tab w) :
    Calls Tryd.prog 3 #[v0] w fun e w' => e = .returned (.bool true) ∧ Below w.heap.size w w' := by
  obtain ⟨zs, hr, hz⟩ := i0
  have Hr : Hid (Row8 w.heap.size w v0 zs) := hr
  have Ht : Hid (Tab w) := tab
  obtain ⟨ad, cap, rfl⟩ := hr.len
  clear hr tab
  by_cases hlen : zs.length ≤ 1048576
  · go_enter Tryd.func3, Tryd.ntmps3
    go_wp2_with fail
    refine (drawRanges _ zs _ Hr.out hlen).mono ?_
    rintro e w1 ⟨u, p, f, rfl, hD, hf, hb1⟩
    have D1 : Hid (Drawn 0 w1 u p) := ⟨hD.1.lower (Nat.zero_le _), hD.2⟩
    obtain ⟨Au, capu, rfl⟩ := hD.1.form
    have Hb1 : Hid (Below w.heap.size w w1) := hb1
    clear hD hb1 Hr hz
    have X0 : Hid (Box _ w1.heap.size #[.slice Au p.length capu]) := box_new w1 #[.slice Au p.length capu] 25
    have X2 : Hid (Below w1.heap.size w1 (w1.alloc (.cells #[.slice Au p.length capu] 25))) := (Below.refl _ _).alloc (Nat.le_refl _) _
    go_wp2_with fail
    refine (specLive _ p f _ (D1.out.below X2.out).1 D1.out.2.1).mono ?_
    rintro e w2 ⟨u0, ls, rfl, hu0, hans, hb2⟩
    have hb12 : Below w1.heap.size w1 w2 := X2.out.trans (hb2.mono (by simp))
    have B2 : Hid (Box w2 w1.heap.size #[.slice Au p.length capu]) := X0.out.below hb2
    have D2 : Hid (Drawn 0 w2 (.slice Au p.length capu) p) := D1.out.below hb12
    have Hb2 : Hid (Below w.heap.size w w2) := Hb1.out.trans (hb12.mono Hb1.out.size)
    have HU0 : Hid (OwnV w1.heap.size w2 u0 (nats ls)) := hu0.lower (by simp)
    have HL : Hid (LiveAns p f ls) := hans
    obtain ⟨A0, cap0, rfl⟩ := hu0.form
    rw [nats_length] at HU0 ⊢
    have c0 := B2.out.at0
    have cz := B2.out.1
    clear hb12 hb2 hu0 hans X0 X2 D1 Hb1
    go_wp2_with fail
    refine (implRanges _ p f _ (Ht.out.below Hb2.out) D2.out.1).mono ?_
    rintro e w3 ⟨u1, rs, rfl, hu1, hans, hb3⟩
    have B3 : Hid (Box w3 w1.heap.size #[.slice Au p.length capu]) := B2.out.below hb3
    have D3 : Hid (Drawn 0 w3 (.slice Au p.length capu) p) := D2.out.below hb3
    have Hb3 : Hid (Below w.heap.size w w3) := Hb2.out.trans (hb3.mono Hb2.out.size)
    have HU3 : Hid (OwnV w1.heap.size w3 (.slice A0 ls.length cap0) (nats ls)) := HU0.out.below hb3
    have HR3 : Hid (RngV w2.heap.size w3 u1 rs) := hu1
    have HRs : Hid (RngAns p f rs) := hans
    obtain ⟨A1, cap1, rfl⟩ := hu1.form
    clear c0 cz hb3 hu1 hans B2 D2 HU0 Hb2
    have c0 := B3.out.at0
    have cz := B3.out.1
    go_wp2_with fail
    refine (specRanges _ p f _ D3.out.1 D3.out.2.1).mono ?_
    rintro e w4 ⟨u2, rs2, rfl, hu2, hans, hb4⟩
    have hlen2 : rs2.length = rs.length := (rng_same HRs.out hans).symm
    have Hb4 : Hid (Below w.heap.size w w4) := Hb3.out.trans (hb4.mono Hb3.out.size)
    have HU4 : Hid (OwnV w1.heap.size w4 (.slice A0 ls.length cap0) (nats ls)) := HU3.out.below hb4
    have HR4 : Hid (RngV w2.heap.size w4 (.slice A1 rs.length cap1) rs) := HR3.out.below hb4
    obtain ⟨A2, cap2, rfl⟩ := hu2.form
    rw [hlen2]
    have hlsl : ls.length ≤ 1048576 := by obtain ⟨_, _, _, h, _⟩ := HU4.out; rwa [nats_length] at h
    have HIn : Hid (∀ a k, a < ls.length → (ls.getD a 0).testBit k = true → ∃ i, ∃ (hi : i < rs.length), rs[i].1 = k ∧ rs[i].2.1 ≤ a ∧ a ≤ rs[i].2.2) := fun a k ha hb => rng_in HRs.out HL.out a k ha hb
    have Hlt : Hid (∀ a, a < ls.length → ls.getD a 0 < 65536) := fun a ha => by
      rcases HL.out with ⟨_, _, hs, _, d⟩ | ⟨_, rfl⟩
      · exact d.2.1 a (by rw [← d.1]; exact ha)
      · simp at ha
    clear c0 cz hb4 hu2 hans hlen2 B3 D3 HU3 HR3 Hb3
    have hrl : rs.length ≤ 16 := by
      rcases HRs.out with ⟨_, _, hs, zz, _, F, _, rfl⟩ | ⟨_, rfl⟩
      · have := rngs_len (keptN zz (wrI p (fnAt p f).code (fnAt p f).locals.toNat hs) (fnAt p f).code.length ((fnAt p f).code.length - 1)) (fnAt p f).code.length ((fnAt p f).locals.toNat + 8)
        have := F.l8
        omega
      · simp
    go_wp2_with fail
    go_loopg [7] ls.length (fun g i wr => ∃ a : Nat, a ≤ ls.length ∧ i = .int .i64 (a : Int) ∧ ls.length ≤ a + g ∧ wr = w4)
    case atStart => exact ⟨0, Nat.zero_le _, rfl, by omega, rfl⟩
    case round =>
      obtain ⟨a, ha, rfl, hag, rfl⟩ := hrel
      obtain ⟨g1, Hg1⟩ : ∃ g1, Hid (g1 = gk) := ⟨_, rfl⟩
      rw [← Hg1.out] at hag
      by_cases hal : a < ls.length
      · have haI : (a : Int) < (ls.length : Int) := by omega
        obtain ⟨bl, rfl, hV⟩ : ∃ b, A0 = some ⟨b, 0, none⟩ ∧ Hid (VRow wr b (ints (nats ls))) := by
          obtain ⟨A', cap', he, _, hor⟩ := HU4.out
          simp only [Value.slice.injEq] at he
          rcases hor with h | ⟨b, h1, _, h3⟩
          · have h2 : ls.length = 0 := by have := congrArg List.length h; rwa [nats_length] at this
            omega
          · exact ⟨b, by rw [he.1, h1], h3⟩
        go_wp2_with fail
        go_loopg [8] 16 (fun g i wr' => ∃ k : Nat, k ≤ 16 ∧ i = .int .i64 (k : Int) ∧ 16 ≤ k + g ∧ wr' = wr)
        case atStart => exact ⟨0, by omega, rfl, by omega, rfl⟩
        case round =>
          obtain ⟨k, hk, rfl, hkg, rfl⟩ := hrel
          obtain ⟨g2, Hg2⟩ : ∃ g2, Hid (g2 = gk) := ⟨_, rfl⟩
          rw [← Hg2.out] at hkg
          by_cases hkl : k < 16
          · have hkI : (k : Int) < 16 := by omega
            obtain ⟨z0, _⟩ := hV.out.nat a hal
            have zz := hV.out.1
            have hzl := Hlt.out a hal
            have hin := HIn.out a k hal
            obtain ⟨Z, HZ⟩ : ∃ Z : Nat, Hid (Z = ls.getD a 0) := ⟨_, rfl⟩
            rw [← HZ.out] at z0 hzl hin
            have hq : Z / 2 ^ k < 65536 := Nat.lt_of_le_of_lt (Nat.div_le_self _ _) hzl
            have hdv : (Z : Int) / 2 ^ k = ((Z / 2 ^ k : Nat) : Int) := by simp
            have o1 := and_i64 (Z / 2 ^ k) 1 hq (by omega)
            rw [Nat.and_one_is_mod, ← hdv] at o1
            have hbit : Z.testBit k = decide (Z / 2 ^ k % 2 = 1) := Nat.testBit_eq_decide_div_mod_eq
            obtain ⟨M, HM⟩ : ∃ M : Nat, Hid (M = Z / 2 ^ k % 2) := ⟨_, rfl⟩
            rw [← HM.out] at o1 hbit
            have hM2 : M < 2 := by rw [HM.out]; omega
            by_cases hM : M = 1
            · subst hM
              have o2 : bits .and .i64 ((Z : Int) / 2 ^ k) 1 = 1 := o1
              have Hin : Hid (∃ i, ∃ (hi : i < rs.length), rs[i].1 = k ∧ rs[i].2.1 ≤ a ∧ a ≤ rs[i].2.2) := hin (by rw [hbit]; rfl)
              clear hin hbit o1 hM2 hdv hq
              go_wp2_with fail
              go_loopg [9, 10] rs.length (fun g x i wr' => ∃ (q : Nat) (b : Bool), q ≤ rs.length ∧ x = .bool b ∧ i = .int .i64 (q : Int) ∧ rs.length ≤ q + g ∧ wr' = wr ∧ ∀ i (hi : i < rs.length), i < q → rs[i].1 = k ∧ rs[i].2.1 ≤ a ∧ a ≤ rs[i].2.2 → b = true)
              case atStart => exact ⟨0, false, by omega, rfl, rfl, by omega, rfl, fun i hi h => by omega⟩
              case round =>
                obtain ⟨q, b, hq, rfl, rfl, hqg, rfl, hall⟩ := hrel
                have Hall : Hid (∀ i (hi : i < rs.length), i < q → rs[i].1 = k ∧ rs[i].2.1 ≤ a ∧ a ≤ rs[i].2.2 → b = true) := hall
                clear hall
                by_cases hql : q < rs.length
                · have hqI : (q : Int) < (rs.length : Int) := by omega
                  cases b with
                  | true =>
                    go_wp2_with fail
                    go_roundg (gk - 1)
                    case measure => omega
                    case rel => exact ⟨q + 1, true, by omega, rfl, by go_num, by omega, rfl, fun _ _ _ _ => rfl⟩
                  | false =>
                    obtain ⟨gb, capg, he, _, hgl, s0, s1, s2⟩ := HR4.out.at q hql
                    simp only [Value.slice.injEq, true_and] at he
                    obtain ⟨rfl, rfl⟩ := he
                    obtain ⟨S0, HS0⟩ : ∃ x : Nat, Hid (x = rs[q].1) := ⟨rs[q].1, rfl⟩
                    obtain ⟨F0, HF0⟩ : ∃ x : Nat, Hid (x = rs[q].2.1) := ⟨rs[q].2.1, rfl⟩
                    obtain ⟨T0, HT0⟩ : ∃ x : Nat, Hid (x = rs[q].2.2) := ⟨rs[q].2.2, rfl⟩
                    rw [← HS0.out] at s0
                    rw [← HF0.out] at s1
                    rw [← HT0.out] at s2
                    have Hno : Hid (¬ (S0 = k ∧ F0 ≤ a ∧ a ≤ T0) → ∀ i (hi : i < rs.length), i < q + 1 → rs[i].1 = k ∧ rs[i].2.1 ≤ a ∧ a ≤ rs[i].2.2 → false = true) := fun hn i hi hlt h => by
                      by_cases e : i = q
                      · subst e
                        exact absurd ⟨by rw [HS0.out]; exact h.1, by rw [HF0.out]; exact h.2.1, by rw [HT0.out]; exact h.2.2⟩ hn
                      · exact Hall.out i hi (by omega) h
                    by_cases h1 : S0 = k
                    · subst h1
                      by_cases h2 : F0 ≤ a
                      · have h2I : (F0 : Int) ≤ (a : Int) := by omega
                        by_cases h3 : a ≤ T0
                        · have h3I : (a : Int) ≤ (T0 : Int) := by omega
                          clear Hno
                          go_wp2_with fail
                          go_roundg (gk - 1)
                          case measure => omega
                          case rel => exact ⟨q + 1, true, by omega, rfl, by go_num, by omega, rfl, fun _ _ _ _ => rfl⟩
                        · have h3I : ¬ (a : Int) ≤ (T0 : Int) := by omega
                          have h3D : decide ((a : Int) ≤ (T0 : Int)) = false := by simpa using h3I
                          have Hn2 : Hid (∀ i (hi : i < rs.length), i < q + 1 → rs[i].1 = S0 ∧ rs[i].2.1 ≤ a ∧ a ≤ rs[i].2.2 → false = true) := Hno.out (fun h => h3 h.2.2)
                          clear Hno
                          go_wp2_with fail
                          go_roundg (gk - 1)
                          case measure => omega
                          case rel => exact ⟨q + 1, false, by omega, rfl, by go_num, by omega, rfl, Hn2.out⟩
                      · have h2I : ¬ (F0 : Int) ≤ (a : Int) := by omega
                        have h2D : decide ((F0 : Int) ≤ (a : Int)) = false := by simpa using h2I
                        have Hn2 : Hid (∀ i (hi : i < rs.length), i < q + 1 → rs[i].1 = S0 ∧ rs[i].2.1 ≤ a ∧ a ≤ rs[i].2.2 → false = true) := Hno.out (fun h => h2 h.2.1)
                        clear Hno
                        go_wp2_with fail
                        go_roundg (gk - 1)
                        case measure => omega
                        case rel => exact ⟨q + 1, false, by omega, rfl, by go_num, by omega, rfl, Hn2.out⟩
                    · have h1I : ((S0 : Int) == (k : Int)) = false := by simp; omega
                      have h1J : ¬ (S0 : Int) = (k : Int) := by omega
                      have Hn2 : Hid (∀ i (hi : i < rs.length), i < q + 1 → rs[i].1 = k ∧ rs[i].2.1 ≤ a ∧ a ≤ rs[i].2.2 → false = true) := Hno.out (fun h => h1 h.1)
                      clear Hno h1
                      go_wp2_with fail
                      go_roundg (gk - 1)
                      case measure => omega
                      case rel => exact ⟨q + 1, false, by omega, rfl, by go_num, by omega, rfl, Hn2.out⟩
                · obtain ⟨i, hi, h⟩ := Hin.out
                  have hb : b = true := Hall.out i hi (by omega) h
                  subst hb
                  have hqe : q = rs.length := by omega
                  subst hqe
                  clear h
                  go_wp2_with fail
                  go_roundg (g2 - 1)
                  case measure => have := Hg2.out; omega
                  case rel => exact ⟨k + 1, by omega, by go_num, by omega, rfl⟩
            · have hM0 : M = 0 := by omega
              subst hM0
              have o2 : bits .and .i64 ((Z : Int) / 2 ^ k) 1 = 0 := o1
              clear hin hbit o1 hM2 hM hdv hq
              go_wp2_with fail
              go_roundg (g2 - 1)
              case measure => have := Hg2.out; omega
              case rel => exact ⟨k + 1, by omega, by go_num, by omega, rfl⟩
          · have hke : k = 16 := by omega
            subst hke
            go_wp2_with fail
            go_roundg (g1 - 1)
            case measure => have := Hg1.out; omega
            case rel => exact ⟨a + 1, by omega, by go_num, by omega, rfl⟩
      · have hae : a = ls.length := by omega
        subst hae
        go_wp2_with fail
        go_ret
        exact ⟨rfl, Hb4.out⟩
  · have hl2 : (1048576 : Int) < (zs.length : Int) := by omega
    go_enter Tryd.func3, Tryd.ntmps3
    go_wp2_with fail
    go_ret
    exact ⟨rfl, Below.refl _ _⟩
end Go.Proofs.YtljhoplcfoiiiaaDoor
