/- impl.Slots, spec.Slots. -/
import Derived.Test.YtljhoplcfoiiiaaDoorSpecV
namespace Go.Proofs.YtljhoplcfoiiiaaDoor
open Go.RowKit

def slotsM (p : List FnM) (f : Int) (hs : List Int) (a : Int) : Int :=
  if (0 ≤ a ∧ a < hs.length) ∧ 0 ≤ hs.getD a.toNat 0 then (fnAt p f).locals + hs.getD a.toNat 0 else 0

def SlotsTold (p : List FnM) (f a : Int) (w w' : World) (e : Ending) : Prop := ∃ z hs, e = .returned (.int .i64 z) ∧ AnsIs p f hs ∧ z = slotsM p f hs a ∧ Below w.heap.size w w'

theorem slots_none (p : List FnM) (f : Int) (hs : List Int) (a : Int) (h : ¬ (0 ≤ a ∧ a < hs.length)) : slotsM p f hs a = 0 := if_neg fun h' => h h'.1

theorem slots_low (p : List FnM) (f : Int) (hs : List Int) (k : Nat) (h : hs.getD k 0 < 0) : slotsM p f hs k = 0 := if_neg fun h' => by
  have := h'.2
  rw [Int.toNat_natCast] at this
  omega

theorem slots_high (p : List FnM) (f : Int) (hs : List Int) (k : Nat) (hk : k < hs.length) (h : 0 ≤ hs.getD k 0) : slotsM p f hs k = (fnAt p f).locals + hs.getD k 0 := by
  unfold slotsM
  rw [Int.toNat_natCast, if_pos ⟨⟨by omega, by omega⟩, h⟩]

/-- what holds of the heights of a function -/
theorem AnsIs.facts {p : List FnM} {f : Int} {hs : List Int} (h : AnsIs p f hs) : hs = [] ∨ ∃ k : Nat, f = k ∧ k < p.length ∧ fnAt p f = p.getD k ⟨0, 0, []⟩ ∧ 0 ≤ (fnAt p f).locals ∧ (fnAt p f).locals ≤ 8 ∧ hs.length = (fnAt p f).code.length ∧ hs.length ≤ 60 ∧ RightP p ∧
    ∀ j, j < hs.length → hs.getD j 0 = -1 ∨ (0 ≤ hs.getD j 0 ∧ hs.getD j 0 ≤ 8) := by
  rcases h with ⟨h1, h2, h3⟩ | ⟨_, h2⟩
  · right
    have hf : 0 ≤ f ∧ f < p.length := by simpa [inL] using h2
    obtain ⟨k, rfl⟩ := Int.eq_ofNat_of_zero_le hf.1
    have hk : k < p.length := by omega
    obtain ⟨hs', hr', q1, q2, _, q4, _⟩ := h1.heights k hk
    have he : hs' = hs := by simpa using hr'.unique h3
    subst he
    obtain ⟨w1, _, _⟩ := ((h1.all).2.2 k hk).well rfl
    have hform : 0 ≤ (fnAt p k).locals ∧ (fnAt p k).locals ≤ 8 ∧ (fnAt p k).code.length ≤ 60 := by simp [formOk] at w1; omega
    exact ⟨k, rfl, hk, rfl, hform.1, hform.2.1, q1, by omega, h1, q4⟩
  · exact .inl h2

set_option maxRecDepth 100000 in
set_option maxHeartbeats 1600000 in
theorem implSlots (v : Value) (p : List FnM) (f a : Int) (w : World) (ht : Tab w) (hr : FnRow 0 w v p) :
    Calls Tryd.prog 13 #[.agg #[v], .int .i64 f, .int .i64 a] w fun e w' => SlotsTold p f a w w' e := by
  have Hr : Hid (FnRow 0 w v p) := hr
  have Ht : Hid (Tab w) := ht
  obtain ⟨A, cap, rfl⟩ := hr.form
  clear hr ht
  have X0 : Hid (Box _ w.heap.size #[.slice A p.length cap]) := box_new w #[.slice A p.length cap] 25
  have X2 : Hid (Below w.heap.size w (w.alloc (.cells #[.slice A p.length cap] 25))) := (Below.refl _ _).alloc (Nat.le_refl _) _
  go_enter Tryd.func13, Tryd.ntmps13
  go_wp2_with fail
  refine (implHeights _ p f _ (Ht.out.below X2.out) (Hr.out.below X2.out)).mono ?_
  rintro e w1 ⟨u, hs, rfl, hu, hans, hb1⟩
  have Hb1 : Hid (Below w.heap.size w w1) := X2.out.trans (hb1.mono X2.out.size)
  have HB : Hid (Box w1 w.heap.size #[.slice A p.length cap]) := X0.out.below hb1
  have Hans : Hid (AnsIs p f hs) := hans
  have hfacts := hans.facts
  obtain ⟨A1, cap1, rfl, hlen, hrow⟩ := hu
  have Hil : Hid (∀ w', Calls Tryd.prog 33 #[.int .i64 a, .int .i64 (hs.length : Int)] w' fun e w'' => e = .returned (.bool (inL a hs.length)) ∧ w'' = w') := fun w' => inList a hs.length w' (by omega)
  clear hb1 X0 X2 hans
  go_wp2_with fail
  refine Calls.mono (Hil.out _) ?_
  rintro e w2 ⟨rfl, hw2⟩
  subst w2
  by_cases hin : inL a hs.length = true
  · have hin' : 0 ≤ a ∧ a < hs.length := by simpa [inL] using hin
    obtain ⟨k, rfl⟩ := Int.eq_ofNat_of_zero_le hin'.1
    have hk : k < hs.length := by omega
    rcases hfacts with rfl | ⟨i, rfl, hi, hfn, hlo, hlo8, hlc, h60, hright, hrange⟩
    · simp at hk
    rcases hrow with rfl | ⟨b, rfl, hB', hV⟩
    · simp at hk
    obtain ⟨ck, _⟩ := hV.int k hk
    have bz := hV.1
    have hrk := hrange k hk
    have hb60 : k ≤ 60 := by omega
    obtain ⟨bp, off, x, rfl, hbp, f0, f1, f2, hcode⟩ := (Hr.out.below Hb1.out).at i hi
    have hpi : p[i] = fnAt p i := by rw [hfn]; simp [List.getD, hi]
    rw [hpi] at f0 f1 hcode
    have c0 := HB.out.at0
    have cz := HB.out.1
    obtain ⟨z, Hz⟩ : ∃ z, Hid (z = hs.getD k 0) := ⟨_, rfl⟩
    obtain ⟨lo, Hlo⟩ : ∃ lo, Hid (lo = (fnAt p i).locals) := ⟨_, rfl⟩
    rw [← Hz.out] at ck hrk
    rw [← Hlo.out] at f1 hlo hlo8
    rw [hin]
    clear hin' hV hrange hcode hpi hfn hlc hright
    by_cases h0 : 0 ≤ z
    · have hz8 : z ≤ 8 := by omega
      have hz1 : (z == -1) = false := by simp; omega
      have hS : Hid (slotsM p i hs k = lo + z) := by have := slots_high p i hs k hk (by rw [← Hz.out]; exact h0); rw [← Hz.out, ← Hlo.out] at this; exact this
      clear hrk
      go_wp2_with fail
      go_region
      all_goals
        go_wp2_with fail
        go_ret
        exact ⟨_, hs, rfl, Hans.out, by rw [hS.out], Hb1.out.drew⟩
    · have hz : z = -1 := by omega
      have hS : Hid (slotsM p i hs k = 0) := slots_low p i hs k (by rw [← Hz.out]; omega)
      clear hrk h0
      subst hz
      go_wp2_with fail
      go_ret
      exact ⟨0, hs, rfl, Hans.out, hS.out.symm, Hb1.out⟩
  · have hin0 : inL a hs.length = false := by simpa using hin
    have hS : Hid (slotsM p f hs a = 0) := slots_none p f hs a (by simpa [inL] using hin)
    rw [hin0]
    clear hin hfacts hrow
    go_wp2_with fail
    go_ret
    exact ⟨0, hs, rfl, Hans.out, hS.out.symm, Hb1.out⟩

set_option maxRecDepth 100000 in
set_option maxHeartbeats 1600000 in
theorem specSlots (v : Value) (p : List FnM) (f a : Int) (w : World) (hr : FnRow 0 w v p) (hp : ∀ g ∈ p, g.ok) :
    Calls Tryd.prog 11 #[.agg #[v], .int .i64 f, .int .i64 a] w fun e w' => SlotsTold p f a w w' e := by
  have Hr : Hid (FnRow 0 w v p) := hr
  have Hp : Hid (∀ g ∈ p, g.ok) := hp
  obtain ⟨A, cap, rfl⟩ := hr.form
  clear hr hp
  have X0 : Hid (Box _ w.heap.size #[.slice A p.length cap]) := box_new w #[.slice A p.length cap] 25
  have X2 : Hid (Below w.heap.size w (w.alloc (.cells #[.slice A p.length cap] 25))) := (Below.refl _ _).alloc (Nat.le_refl _) _
  go_enter Tryd.func11, Tryd.ntmps11
  go_wp2_with fail
  refine (specIs _ p f _ (Hr.out.below X2.out) Hp.out).mono ?_
  rintro e w1 ⟨b, rfl, hb1, hiff⟩
  have Hb1 : Hid (Below w.heap.size w w1) := X2.out.trans (hb1.mono X2.out.size)
  have HB : Hid (Box w1 w.heap.size #[.slice A p.length cap]) := X0.out.below hb1
  have c0 := HB.out.at0
  have cz := HB.out.1
  clear hb1 X0 X2
  cases b with
  | false =>
    have HA : Hid (AnsIs p f []) := .inr ⟨fun h => by simpa using hiff.2 h, rfl⟩
    clear hiff
    go_wp2_with fail
    go_ret
    exact ⟨0, [], rfl, HA.out, (slots_none p f [] a (by simp)).symm, Hb1.out⟩
  | true =>
    obtain ⟨hright, hin⟩ := hiff.1 rfl
    have hin' : 0 ≤ f ∧ f < p.length := by simpa [inL] using hin
    obtain ⟨i, rfl⟩ := Int.eq_ofNat_of_zero_le hin'.1
    have hi : i < p.length := by omega
    have hfn := fnAt_nat p i hi
    obtain ⟨hs, hrun, hlc, _, _, hrange, _⟩ := hright.heights i hi
    obtain ⟨hfo, hall, _⟩ := ((hright.all).2.2 i hi).well rfl
    have hform : 0 ≤ (fnAt p i).locals ∧ (fnAt p i).locals ≤ 8 ∧ 1 ≤ (fnAt p i).code.length ∧ (fnAt p i).code.length ≤ 60 := by simp [formOk] at hfo; omega
    obtain ⟨c, hc⟩ : ∃ c, c = p[i].code := ⟨_, rfl⟩
    have hcf : (fnAt p i).code = c := by rw [hfn, hc]
    have HA : Hid (AnsIs p i hs) := .inl ⟨hright, hin, hrun⟩
    rw [hcf] at hrun hall hform hlc
    have Hrun : Hid (HRun p c (startH c.length) (.inl hs)) := hrun
    obtain ⟨lo, Hlo⟩ : ∃ lo, Hid (lo = (fnAt p i).locals) := ⟨_, rfl⟩
    obtain ⟨bp, off, x, rfl, hbp, f0, f1, f2, hcode⟩ := (Hr.out.below Hb1.out).at i hi
    rw [← hc] at hcode
    rw [show p[i].locals = lo by rw [Hlo.out, hfn]] at f1
    rw [← Hlo.out] at hform
    obtain ⟨hlo, hlo8, hn1, hn60⟩ := hform
    have HW : Hid (∀ w2, Below w1.heap.size w1 w2 → FnRow 0 w2 (.slice (some ⟨bp, off, none⟩) p.length cap) p) := fun w2 h => (Hr.out.below Hb1.out).below h
    obtain ⟨Ac, capc, rfl⟩ := hcode.form
    obtain ⟨n, hn⟩ : ∃ n, n = c.length := ⟨_, rfl⟩
    have hfi := specHeights (.slice (some ⟨bp, off, none⟩) p.length cap) p i w1 (Hr.out.below Hb1.out) Hp.out hi (by rw [← hc]; exact hn1) (by rw [← hc]; exact hn60) (by rw [← hc]; exact goesTo_range (p := p) (f := i) hcf.symm hall)
    rw [← hc] at hfi
    have Hfi : Hid (Calls Tryd.prog 27 #[.agg #[.slice (some ⟨bp, off, none⟩) p.length cap], .int .i64 i] w1 fun e w' => HTold p c i w1 w' e) := hfi
    have Hn : Hid (n = c.length) := hn
    rw [← hn] at hn1 hn60 hlc f2
    clear hiff hright hin hin' hfn hfo hall hcf hrun hfi hc hcode hn
    by_cases h0 : 0 ≤ a
    · obtain ⟨k, rfl⟩ := Int.eq_ofNat_of_zero_le h0
      by_cases h1 : k < n
      · have h1' : ((n : Int) ≤ (k : Int)) = False := by simp; omega
        have hrk := hrange k (by omega)
        clear hrange
        go_wp2_with fail
        refine Calls.mono (R := fun e w' => HTold p c i w1 w' e) Hfi.out ?_
        rintro e w2 ⟨bh, caph, F, A2, C, rfl, hbl, hb2, hcase⟩
        have Hb2 : Hid (Below w.heap.size w w2) := Hb1.out.trans (hb2.mono Hb1.out.size)
        rcases hcase with ⟨rfl, rfl, rfl, hs', hrun', hV, hl'⟩ | ⟨_, a', _, hrun'⟩
        · have he : hs' = hs := by simpa using hrun'.unique Hrun.out
          subst he
          have HB2 := HB.out.below hb2
          have hg := HW.out w2 hb2
          obtain ⟨bp', off', x', hA', hbp', g0, g1, g2, _⟩ := hg.at i hi
          simp only [Option.some.injEq, Addr.mk.injEq, and_true] at hA'
          obtain ⟨rfl, rfl⟩ := hA'
          have hal : Below w2.heap.size w2 (w2.alloc (.cells #[.int .i64 0, .int .i64 0, .int .i64 0] 60)) := (Below.refl _ _).alloc (Nat.le_refl _) _
          have HB3 := HB2.below hal
          have HV3 := hV.below hal
          obtain ⟨ck, _⟩ := HV3.int k (by omega)
          have bz := HV3.1
          have Hb3 : Hid (Below w.heap.size w (w2.alloc (.cells #[.int .i64 0, .int .i64 0, .int .i64 0] 60))) := Hb2.out.trans (hal.mono Hb2.out.size)
          rw [show p[i].locals = lo by rw [Hlo.out, fnAt_nat p i hi]] at g1
          have e0 := HB3.at0
          have ez := HB3.1
          have g1' := (hal.cell (p := ⟨bp, off + i * 3 + 1, none⟩) hbp').trans g1
          obtain ⟨z, Hz⟩ : ∃ z, Hid (z = hs'.getD k 0) := ⟨_, rfl⟩
          rw [← Hz.out] at ck hrk
          have hk' : k < hs'.length := by omega
          have hkk : k ≤ 60 := by omega
          have HzL : Hid (∀ x, 0 ≤ x → x = z → slotsM p i hs' k = lo + x) := fun x h0 hx => by have := slots_high p i hs' k hk' (by rw [← Hz.out, ← hx]; exact h0); rw [this, ← Hz.out, ← Hlo.out, hx]
          have HzN : Hid (z < 0 → slotsM p i hs' k = 0) := fun h => slots_low p i hs' k (by rw [← Hz.out]; exact h)
          clear hb2 hbl hrun' hV hl' HB2 hg g0 g1 g2 hal HB3 HV3 f0 f1 f2 c0 cz Hfi HW HB hbp
          have hkc : k < c.length := by rw [← Hn.out]; exact h1
          by_cases h0 : 0 ≤ z
          · have hz8 : z ≤ 8 := by omega
            have hz0 : (z < 0) = False := by simp; omega
            have hS := HzL.out z h0 rfl
            have HS : Hid (slotsM p i hs' k = lo + z) := hS
            clear hrk hS
            have hbpz : bp < w2.heap.size + 1 := by omega
            go_wp2_with fail
            go_region
            all_goals
              go_wp2_with fail
              go_ret
              exact ⟨_, hs', rfl, HA.out, HS.out.symm, Hb3.out.drew⟩
          · have HS : Hid (slotsM p i hs' k = 0) := HzN.out (by omega)
            have hz0 : (z < 0) = True := by simp; omega
            clear hrk h0
            go_wp2_with fail
            go_ret
            exact ⟨0, hs', rfl, HA.out, HS.out.symm, Hb3.out⟩
        · have := hrun'.unique Hrun.out
          cases this
      · have h1' : (n : Int) ≤ (k : Int) := by omega
        have HS : Hid (slotsM p i hs k = 0) := slots_none p i hs k (by omega)
        clear hrange
        go_wp2_with fail
        go_ret
        exact ⟨0, hs, rfl, HA.out, HS.out.symm, Hb1.out⟩
    · have h0' : a < 0 := by omega
      go_wp2_with fail
      go_ret
      exact ⟨0, hs, rfl, HA.out, (slots_none p i hs a (by omega)).symm, Hb1.out⟩
end Go.Proofs.YtljhoplcfoiiiaaDoor
