/- impl.ProgramSame, spec.ProgramSame. -/
import Derived.Test.YtchlheionnfknaaSameW
namespace Go.Proofs.Ytchlheionnfknaa
open Go.RowKit

def sameP (p q : List FnM) : Bool := decide (p = q)

theorem sameP_of {p q : List FnM} (hl : p.length = q.length) (h : ∀ j (h : j < p.length) (h' : j < q.length), p[j] = q[j]) : sameP p q = true := by
  have : p = q := List.ext_getElem hl fun j h1 h2 => h j h1 h2
  subst this
  simp [sameP]

theorem sameP_not {p q : List FnM} (j : Nat) (h : j < p.length) (h' : j < q.length) (hne : ¬ p[j] = q[j]) : sameP p q = false := by
  simp only [sameP, decide_eq_false_iff_not]
  intro e
  subst e
  exact hne rfl

set_option maxRecDepth 100000 in
set_option maxHeartbeats 1600000 in
theorem specSameP {B C : Nat} (v u : Value) (c d : List FnM) (w : World) (hr : FnRow B w v c) (ht : FnRow C w u d) :
    Calls Try.prog 11 #[.agg #[v], .agg #[u]] w fun e w' => e = .returned (.bool (sameP c d)) ∧ Below w.heap.size w w' := by
  have Hba : Hid (∀ o o' : Obj, Below w.heap.size w ((w.alloc o).alloc o')) := fun o o' => ((Below.refl _ _).alloc (Nat.le_refl _) _).alloc (by simp) _
  have Hr : Hid (FnRow B w v c) := hr
  have Ht : Hid (FnRow C w u d) := ht
  obtain ⟨A, cap, rfl, hcl, _⟩ := hr
  obtain ⟨D, dap, rfl, hdl, _⟩ := ht
  by_cases hl : c.length = d.length
  · rw [hl] at Hr ⊢
    have Hl : Hid (c.length = d.length) := hl
    clear hl hcl
    go_enter Try.func11, Try.ntmps11
    go_wp2_with fail
    go_loopw [5] (fun i wr => ∃ k : Nat, k ≤ d.length ∧ i = .int .i64 k ∧ Box wr w.heap.size #[.slice A d.length cap] ∧ Box wr (w.heap.size + 1) #[.slice D d.length dap] ∧ Below w.heap.size w wr ∧ ∀ j (h : j < c.length) (h' : j < d.length), j < k → c[j] = d[j])
      (fun i _ => d.length - (intOf i).toNat)
    case atStart =>
      obtain ⟨x0, x1, x2⟩ := boxes_new w #[.slice A d.length cap] #[.slice D d.length dap] 39 39
      exact ⟨0, Nat.zero_le _, rfl, x0, x1, x2, fun j _ _ h => by omega⟩
    case round =>
      obtain ⟨k, hk, rfl, hB0, hB1, hb, hsame⟩ := hrel
      have q0 := hB0.at0
      have q1 := hB1.at0
      have HB0 : Hid (Box wr w.heap.size #[.slice A d.length cap]) := hB0
      have HB1 : Hid (Box wr (w.heap.size + 1) #[.slice D d.length dap]) := hB1
      have Hb : Hid (Below w.heap.size w wr) := hb
      have Hsame : Hid (∀ j (h : j < c.length) (h' : j < d.length), j < k → c[j] = d[j]) := hsame
      clear hB0 hB1 hb hsame
      by_cases hkl : k < d.length
      · have hkc : k < c.length := by rw [Hl.out]; exact hkl
        obtain ⟨b, off, x, rfl, hlt, c0, c1, c2, hx⟩ := (Hr.out.below Hb.out).at k hkc
        obtain ⟨b', off', y, rfl, hlt', d0, d1, d2, hy⟩ := (Ht.out.below Hb.out).at k hkl
        have Hx : Hid (InsRow B wr.drew x c[k].code) := hx.below (Below.refl _ _).drew
        have Hy : Hid (InsRow C wr.drew y d[k].code) := hy.below (Below.refl _ _).drew
        clear hx hy
        go_upto_region 6 with fail
        go_cut [31] from 13 to 31 (fun x wc => x = .bool (!sameF c[k] d[k]) ∧ Below wr.heap.size wr wc)
        case first =>
          go_region_with (go_at_call 6; refine (specSameF _ _ _ _ x y c[k].code d[k].code _ Hx.out Hy.out).mono ?_; rintro e w3 ⟨rfl, hb3⟩)
          all_goals
            go_wp2_with fail
            go_meet
            exact ⟨rfl, (Below.refl _ _).drew.trans hb3⟩
        case rest =>
          obtain ⟨rfl, hwc⟩ := hcut
          have Hwc : Hid (Below wr.heap.size wr wc) := hwc
          clear hwc
          by_cases hcd : c[k] = d[k]
          · have hT : sameF c[k] d[k] = true := by rw [hcd]; simp [sameF]
            have Hcd : Hid (c[k] = d[k]) := hcd
            rw [hT]
            clear hcd
            go_wp2_with fail
            go_roundw
            case rel => exact ⟨k + 1, by omega, by go_num, HB0.out.below Hwc.out, HB1.out.below Hwc.out, Hb.out.trans (Hwc.out.mono Hb.out.size), fun j h h' hj => if e : j = k then by subst e; exact Hcd.out else Hsame.out j h h' (by omega)⟩
            case measure => simp [intOf]; omega
          · have hT : sameF c[k] d[k] = false := by simp [sameF, hcd]
            have HT : Hid (sameP c d = false) := sameP_not k hkc hkl hcd
            rw [hT]
            clear hcd
            go_wp2_with fail
            go_ret
            exact ⟨by rw [HT.out]; rfl, Hb.out.trans (Hwc.out.mono Hb.out.size)⟩
      · go_wp2_with fail
        go_ret
        exact ⟨by rw [sameP_of Hl.out fun j h h' => Hsame.out j h h' (by omega)]; rfl, Hb.out⟩
  · have hl' : ((c.length : Int) != (d.length : Int)) = true := by simpa using (show ¬ (c.length : Int) = (d.length : Int) by omega)
    have HT : Hid (sameP c d = false) := by
      show sameP _ _ = false
      simp only [sameP, decide_eq_false_iff_not]
      intro e
      exact hl (by rw [e])
    go_enter Try.func11, Try.ntmps11
    go_wp2_with fail
    go_ret
    exact ⟨by rw [HT.out]; rfl, Hba.out _ _⟩
set_option maxRecDepth 100000 in
set_option maxHeartbeats 1600000 in
theorem implSameP {B C : Nat} (v u : Value) (c d : List FnM) (w : World) (hr : FnRow B w v c) (ht : FnRow C w u d) :
    Calls Try.prog 13 #[.agg #[v], .agg #[u]] w fun e w' => e = .returned (.bool (sameP c d)) ∧ Below w.heap.size w w' := by
  have Hba : Hid (∀ o o' : Obj, Below w.heap.size w ((w.alloc o).alloc o')) := fun o o' => ((Below.refl _ _).alloc (Nat.le_refl _) _).alloc (by simp) _
  have Hr : Hid (FnRow B w v c) := hr
  have Ht : Hid (FnRow C w u d) := ht
  obtain ⟨A, cap, rfl, hcl, _⟩ := hr
  obtain ⟨D, dap, rfl, hdl, _⟩ := ht
  by_cases hl : c.length = d.length
  · rw [hl] at Hr ⊢
    have Hl : Hid (c.length = d.length) := hl
    clear hl hcl
    go_enter Try.func13, Try.ntmps13
    go_wp2_with fail
    go_loopw [17] (fun i wr => ∃ k : Nat, k ≤ d.length ∧ i = .int .i64 k ∧ Box wr w.heap.size #[.slice A d.length cap] ∧ Box wr (w.heap.size + 1) #[.slice D d.length dap] ∧ Below w.heap.size w wr ∧ ∀ j (h : j < c.length) (h' : j < d.length), j < k → c[j] = d[j])
      (fun i _ => d.length - (intOf i).toNat)
    case atStart =>
      obtain ⟨x0, x1, x2⟩ := boxes_new w #[.slice A d.length cap] #[.slice D d.length dap] 39 39
      exact ⟨0, Nat.zero_le _, rfl, x0, x1, x2, fun j _ _ h => by omega⟩
    case round =>
      obtain ⟨k, hk, rfl, hB0, hB1, hb, hsame⟩ := hrel
      have q0 := hB0.at0
      have q1 := hB1.at0
      have HB0 : Hid (Box wr w.heap.size #[.slice A d.length cap]) := hB0
      have HB1 : Hid (Box wr (w.heap.size + 1) #[.slice D d.length dap]) := hB1
      have Hb : Hid (Below w.heap.size w wr) := hb
      have Hsame : Hid (∀ j (h : j < c.length) (h' : j < d.length), j < k → c[j] = d[j]) := hsame
      clear hB0 hB1 hb hsame
      by_cases hkl : k < d.length
      · have hkc : k < c.length := by rw [Hl.out]; exact hkl
        obtain ⟨b, off, x, rfl, hlt, c0, c1, c2, hx⟩ := (Hr.out.below Hb.out).at k hkc
        obtain ⟨b', off', y, rfl, hlt', d0, d1, d2, hy⟩ := (Ht.out.below Hb.out).at k hkl
        obtain ⟨AX, capX, rfl⟩ := hx.form
        have Hx : Hid (∀ o, InsRow B (wr.alloc o).drew (.slice AX c[k].code.length capX) c[k].code) := fun o => hx.below ((Below.refl _ _).alloc (Nat.le_refl _) o).drew
        have Hy : Hid (∀ o, InsRow C (wr.alloc o).drew y d[k].code) := fun o => hy.below ((Below.refl _ _).alloc (Nat.le_refl _) o).drew
        have hz1 := HB1.out.1
        clear hx hy
        go_upto_region 6 with fail
        go_cut [17, 29] from 17 to 30 (fun i x wc => i = .int .i64 k ∧ x = .bool (!sameF c[k] d[k]) ∧ Below wr.heap.size wr wc)
        case first =>
          go_region_with (go_at_call 8; refine (implSameF _ _ _ _ _ y c[k].code d[k].code _ (Hx.out _) (Hy.out _)).mono ?_; rintro e w3 ⟨rfl, hb3⟩)
          all_goals
            go_wp2_with fail
            go_meet
            exact ⟨rfl, rfl, ((Below.refl _ _).alloc (Nat.le_refl _) _).drew.trans (hb3.mono (by simp))⟩
        case rest =>
          obtain ⟨rfl, rfl, hwc⟩ := hcut
          have Hwc : Hid (Below wr.heap.size wr wc) := hwc
          clear hwc
          by_cases hcd : c[k] = d[k]
          · have hT : sameF c[k] d[k] = true := by rw [hcd]; simp [sameF]
            have Hcd : Hid (c[k] = d[k]) := hcd
            rw [hT]
            clear hcd
            go_wp2_with fail
            go_roundw
            case rel => exact ⟨k + 1, by omega, by go_num, HB0.out.below Hwc.out, HB1.out.below Hwc.out, Hb.out.trans (Hwc.out.mono Hb.out.size), fun j h h' hj => if e : j = k then by subst e; exact Hcd.out else Hsame.out j h h' (by omega)⟩
            case measure => simp [intOf]; omega
          · have hT : sameF c[k] d[k] = false := by simp [sameF, hcd]
            have HT : Hid (sameP c d = false) := sameP_not k hkc hkl hcd
            rw [hT]
            clear hcd
            go_wp2_with fail
            go_ret
            exact ⟨by rw [HT.out]; rfl, Hb.out.trans (Hwc.out.mono Hb.out.size)⟩
      · go_wp2_with fail
        go_ret
        exact ⟨by rw [sameP_of Hl.out fun j h h' => Hsame.out j h h' (by omega)]; rfl, Hb.out⟩
  · have hl' : ((c.length : Int) != (d.length : Int)) = true := by simpa using (show ¬ (c.length : Int) = (d.length : Int) by omega)
    have HT : Hid (sameP c d = false) := by
      show sameP _ _ = false
      simp only [sameP, decide_eq_false_iff_not]
      intro e
      exact hl (by rw [e])
    go_enter Try.func13, Try.ntmps13
    go_wp2_with fail
    go_ret
    exact ⟨by rw [HT.out]; rfl, Hba.out _ _⟩
end Go.Proofs.Ytchlheionnfknaa
