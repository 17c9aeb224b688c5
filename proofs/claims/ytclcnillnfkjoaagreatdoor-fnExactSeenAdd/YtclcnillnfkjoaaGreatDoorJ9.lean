/- spec.Verify, spec.l04Right, spec.l04Is, spec.Heights. spec.l07Jz, l07Less, SeenRight. -/
import Derived.Test.YtclcnillnfkjoaaGreatDoorSpecF
import Derived.Test.YtclcnillnfkjoaaGreatDoorJ8
import Derived.Test.YtclcnillnfkjoaaGreatDoorSeenP
import Derived.Test.YtclcnillnfkjoaaGreatDoorLessS
namespace Go.Proofs.YtclcnillnfkjoaaGreatDoor
open Go.RowKit

def SVerTold (p : List FnM) (w w' : World) (e : Ending) : Prop :=
  ∃ F A C : Int, e = .returned (.agg #[.int .i64 F, .int .i64 A, .int .i64 C]) ∧ Below w.heap.size w w' ∧ VerifyIs p F A C

set_option maxRecDepth 100000 in
set_option maxHeartbeats 3200000 in
theorem specVerify (v : Value) (p : List FnM) (w : World) (hr : FnRow 0 w v p) (hp : ∀ g ∈ p, g.ok) :
    Calls Tryz.prog 44 #[.agg #[v]] w fun e w' => SVerTold p w w' e := by
  have Hr : Hid (FnRow 0 w v p) := hr
  have Hp : Hid (∀ g ∈ p, g.ok) := hp
  have hlen := hr.len
  obtain ⟨A, cap, rfl⟩ := hr.form
  clear hr hp
  obtain ⟨x0, x1, x2⟩ := boxes_new w #[.slice A p.length cap] #[.int .i64 0, .int .i64 0, .int .i64 0] 25 52
  have y1 := vrow_new (w.alloc (.cells #[.slice A p.length cap] 25)) #[.int .i64 0, .int .i64 0, .int .i64 0] 52
  rw [show (w.alloc (.cells #[.slice A p.length cap] 25)).heap.size = w.heap.size + 1 by simp] at y1
  have X0 : Hid (Box _ w.heap.size #[.slice A p.length cap]) := x0
  have X1 : Hid (VRow _ (w.heap.size + 1) (ints [0, 0, 0])) := y1
  have X2 : Hid (Below _ _ _) := x2
  clear x0 x1 x2 y1
  obtain ⟨n, Hn⟩ : ∃ n, Hid (n = p.length) := ⟨_, rfl⟩
  rw [← Hn.out] at hlen X0 X1 X2 Hr ⊢
  by_cases hn0 : n < 1
  · have HF : Hid (VerifyIs p 0 0 1) := .form (by rw [← Hn.out]; omega)
    have Hno : Hid (∀ o o', Below w.heap.size w ((w.alloc o).alloc o')) := fun o o' => ((Below.refl _ _).alloc (Nat.le_refl _) _).alloc (by simp) _
    have hn0' : (n : Int) < 1 := by omega
    clear X0 X1 X2
    go_enter Tryz.func44, Tryz.ntmps44
    go_wp2_with fail
    exact bodyPost_ret (v := .agg #[.int .i64 0, .int .i64 0, .int .i64 1]) (by simp [results, Tryz.results44, go_sem]) rfl ⟨0, 0, 1, rfl, Hno.out _ _, HF.out⟩
  · have hn0' : decide ((n : Int) < 1) = false := by simp; omega
    by_cases hn6 : 6 < n
    · have HF : Hid (VerifyIs p 0 0 1) := .form (by rw [← Hn.out]; omega)
      have Hno : Hid (∀ o o', Below w.heap.size w ((w.alloc o).alloc o')) := fun o o' => ((Below.refl _ _).alloc (Nat.le_refl _) _).alloc (by simp) _
      have hn6' : (6 : Int) < n := by omega
      clear X0 X1 X2
      go_enter Tryz.func44, Tryz.ntmps44
      go_wp2_with fail
      exact bodyPost_ret (v := .agg #[.int .i64 0, .int .i64 0, .int .i64 1]) (by simp [results, Tryz.results44, go_sem]) rfl ⟨0, 0, 1, rfl, Hno.out _ _, HF.out⟩
    · have hn6' : decide ((6 : Int) < n) = false := by simp; omega
      go_enter Tryz.func44, Tryz.ntmps44
      go_wp2_with fail
      go_loopg [3] n (fun g i wr => ∃ k : Nat, k ≤ n ∧ i = .int .i64 k ∧ n ≤ k + g ∧ Box wr w.heap.size #[.slice A n cap] ∧ VRow wr (w.heap.size + 1) (ints [0, 0, 0]) ∧ Below w.heap.size w wr ∧ ∀ j, j < k → FuncIs p j 0 0)
      case atStart => exact ⟨0, Nat.zero_le _, rfl, by omega, X0.out, X1.out, X2.out, fun j h => by omega⟩
      case round =>
        clear X0 X1 X2 hn0' hn6'
        obtain ⟨k, hk, rfl, hkg, hB, hV, hb, hall⟩ := hrel
        have HB : Hid (Box wr w.heap.size #[.slice A n cap]) := hB
        have HV : Hid (VRow wr (w.heap.size + 1) (ints [0, 0, 0])) := hV
        have Hb : Hid (Below w.heap.size w wr) := hb
        have Hall : Hid (∀ j, j < k → FuncIs p j 0 0) := hall
        have c0 := hB.at0
        have cz := hB.1
        clear hB hV hb hall
        by_cases hkl : k < n
        · have hfi := specFunc (.slice A n cap) p k wr (Hr.out.below Hb.out) Hp.out (by rw [← Hn.out]; exact hkl)
          have Hfi : Hid (Calls Tryz.prog 73 #[.agg #[.slice A n cap], .int .i64 k] wr fun e w' => SFuncTold p k wr w' e) := hfi
          clear hfi
          go_wp2_with fail
          refine Calls.mono (R := fun e w' => SFuncTold p k wr w' e) Hfi.out ?_
          rintro e w2 ⟨F, A2, C, rfl, hb2, hz, hne, his⟩
          have HB2 : Hid (Box w2 w.heap.size #[.slice A n cap]) := HB.out.below hb2
          have HV2 : Hid (VRow w2 (w.heap.size + 1) (ints [0, 0, 0])) := HV.out.below hb2
          have Hb2 : Hid (Below w.heap.size w w2) := Hb.out.trans (hb2.mono Hb.out.size)
          clear hb2 c0 cz HB HV Hfi
          by_cases hC : C = 0
          · subst hC
            obtain ⟨rfl, rfl⟩ := hz rfl
            have Hf0 : Hid (FuncIs p k 0 0) := his
            clear hz hne his
            go_wp2_with fail
            go_roundg (gk - 1)
            case measure => omega
            case rel =>
              have hal : Below w2.heap.size w2 (w2.alloc (.cells #[.int .i64 0, .int .i64 0, .int .i64 0] 52)) := (Below.refl _ _).alloc (Nat.le_refl _) _
              exact ⟨k + 1, by omega, by go_num, by omega, HB2.out.below hal, HV2.out.below hal, Hb2.out.trans (hal.mono Hb2.out.size), fun j hj => if e : j = k then by subst e; exact Hf0.out else Hall.out j (by omega)⟩
          · have hF := hne hC
            subst hF
            have hC' : (C != 0) = true := by simpa using hC
            have HF : Hid (VerifyIs p k A2 C) := .fault k A2 C (by rw [← Hn.out]; omega) (by rw [← Hn.out]; omega) (by rw [← Hn.out]; exact hkl) Hall.out his hC
            clear hz hne his
            obtain ⟨r0, q0⟩ := HV2.out.int 0 (by simp)
            obtain ⟨r1, q1⟩ := HV2.out.int 1 (by simp)
            obtain ⟨r2, q2⟩ := HV2.out.int 2 (by simp)
            have rz := HV2.out.1
            simp at r0 r1 r2
            go_wp2_with fail
            have HZ : Hid (VRow ((((w2.setCell ⟨w.heap.size + 1, 0, none⟩ (.int .i64 k)).setCell ⟨w.heap.size + 1, 1, none⟩ (.int .i64 A2)).setCell ⟨w.heap.size + 1, 2, none⟩ (.int .i64 C)).alloc (.cells #[.int .i64 k, .int .i64 A2, .int .i64 C] 52)) (w.heap.size + 1) (ints [k, A2, C])) := (HV2.out.put3 _ _ _).below ((Below.refl _ _).alloc (Nat.le_refl _) _)
            have hbz := below_put3 (g := w.heap.size + 1) Hb2.out (.int .i64 k) (.int .i64 A2) (.int .i64 C) (by omega)
            exact bodyPost_ret (v := .agg #[.int .i64 k, .int .i64 A2, .int .i64 C]) (by simp [results, Tryz.results44, go_sem, HZ.out.at0, HZ.out.at1, HZ.out.at2]) rfl
              ⟨k, A2, C, rfl, hbz.alloc hbz.size _, HF.out⟩
        · have HF : Hid (VerifyIs p 0 0 0) := .ok (by rw [← Hn.out]; omega) (by rw [← Hn.out]; omega) (fun g hg => Hall.out g (by rw [← Hn.out] at hg; omega))
          obtain ⟨r0, q0⟩ := HV.out.int 0 (by simp)
          obtain ⟨r1, q1⟩ := HV.out.int 1 (by simp)
          obtain ⟨r2, q2⟩ := HV.out.int 2 (by simp)
          have rz := HV.out.1
          simp at r0 r1 r2
          go_wp2_with fail
          have HZ : Hid (VRow (((wr.setCell ⟨w.heap.size + 1, 0, none⟩ (.int .i64 0)).setCell ⟨w.heap.size + 1, 1, none⟩ (.int .i64 0)).setCell ⟨w.heap.size + 1, 2, none⟩ (.int .i64 0)) (w.heap.size + 1) (ints [0, 0, 0])) := HV.out.put3 _ _ _
          exact bodyPost_ret (v := .agg #[.int .i64 0, .int .i64 0, .int .i64 0]) (by simp [results, Tryz.results44, go_sem, HZ.out.at0, HZ.out.at1, HZ.out.at2]) rfl
            ⟨0, 0, 0, rfl, below_put3 Hb.out _ _ _ (by omega), HF.out⟩

theorem verifyIs_right {p : List FnM} {F A C : Int} (h : VerifyIs p F A C) : C = 0 ↔ RightP p := by
  constructor
  · intro hc
    subst hc
    obtain ⟨a, b, c⟩ := h.all rfl
    exact .ok a b c
  · intro hr
    exact (h.unique hr).2.2

set_option maxHeartbeats 1600000 in
theorem specRightP (v : Value) (p : List FnM) (w : World) (hr : FnRow 0 w v p) (hp : ∀ g ∈ p, g.ok) :
    Calls Tryz.prog 29 #[.agg #[v]] w fun e w' => ∃ b : Bool, e = .returned (.bool b) ∧ Below w.heap.size w w' ∧ (b = true ↔ RightP p) := by
  have Hr : Hid (FnRow 0 w v p) := hr
  have Hp : Hid (∀ g ∈ p, g.ok) := hp
  obtain ⟨A, cap, rfl⟩ := hr.form
  clear hr hp
  have X2 : Hid (Below w.heap.size w (w.alloc (.cells #[.slice A p.length cap] 25))) := (Below.refl _ _).alloc (Nat.le_refl _) _
  have hfc := fieldCode
  go_enter Tryz.func29, Tryz.ntmps29
  go_wp2_with fail
  refine (specVerify _ p _ (Hr.out.below X2.out) Hp.out).mono ?_
  rintro e w1 ⟨F, A2, C, rfl, hb1, h1⟩
  have Hiff : Hid (C = 0 ↔ RightP p) := verifyIs_right h1
  have Hb1 : Hid (Below w.heap.size w w1) := X2.out.trans (hb1.mono X2.out.size)
  clear hb1 h1 X2
  go_wp2_with fail
  go_ret
  exact ⟨_, rfl, Hb1.out, by rw [← Hiff.out]; simp⟩

end Go.Proofs.YtclcnillnfkjoaaGreatDoor

namespace Go.Proofs.YtclcnillnfkjoaaGreatDoor
open Go.RowKit

theorem jzAt_nat {p : List FnM} {i j : Nat} (hi : i < p.length) : JzAt p i j ↔ ∃ h : j < p[i].code.length, p[i].code[j].1 = 31 := by
  unfold JzAt
  rw [show (fnAt p (i : Int)).code = p[i].code by simp [fnAt, List.getD, hi]]
  constructor
  · rintro ⟨_, _, _, h1, h2⟩
    have h1' : j < p[i].code.length := by omega
    refine ⟨h1', ?_⟩
    simpa [opOf, List.getD, h1'] using h2
  · rintro ⟨h1, h2⟩
    exact ⟨by omega, by omega, by omega, by omega, by simpa [opOf, List.getD, h1] using h2⟩

set_option maxRecDepth 100000 in
set_option maxHeartbeats 1600000 in
theorem specJz {B : Nat} (v : Value) (p : List FnM) (f a : Int) (w : World) (hr : FnRow B w v p) :
    Calls Tryz.prog 75 #[.agg #[v], .int .i64 f, .int .i64 a] w fun e w' => e = .returned (.bool (decide (JzAt p f a))) ∧ Below w.heap.size w w' := by
  have Hr : Hid (FnRow B w v p) := hr
  have hlen := hr.len
  obtain ⟨A, cap, rfl⟩ := hr.form
  obtain ⟨r, HR⟩ : ∃ r, Hid (r = decide (JzAt p f a)) := ⟨_, rfl⟩
  rw [← HR.out]
  have Hb : Hid (Below w.heap.size w (w.alloc (.cells #[.slice A p.length cap] 25))) := (Below.refl _ _).alloc (Nat.le_refl _) _
  clear hr
  by_cases h0 : 0 ≤ f
  case neg =>
    have HF : Hid (r = false) := HR.out.trans (decide_eq_false (fun h => h0 h.1))
    clear HR
    go_enter Tryz.func75, Tryz.ntmps75
    go_wp2_with fail
    go_ret
    exact ⟨by rw [HF.out]; rfl, Hb.out⟩
  by_cases h1 : f < p.length
  case neg =>
    have HF : Hid (r = false) := HR.out.trans (decide_eq_false (fun h => h1 h.2.1))
    clear HR
    go_enter Tryz.func75, Tryz.ntmps75
    go_wp2_with fail
    go_ret
    exact ⟨by rw [HF.out]; rfl, Hb.out⟩
  by_cases h2 : 0 ≤ a
  case neg =>
    have HF : Hid (r = false) := HR.out.trans (decide_eq_false (fun h => h2 h.2.2.1))
    clear HR
    go_enter Tryz.func75, Tryz.ntmps75
    go_wp2_with fail
    go_ret
    exact ⟨by rw [HF.out]; rfl, Hb.out⟩
  obtain ⟨i, rfl⟩ := Int.eq_ofNat_of_zero_le h0
  obtain ⟨j, rfl⟩ := Int.eq_ofNat_of_zero_le h2
  have hi : i < p.length := by omega
  obtain ⟨b0, off0, x, rfl, hlt0, e0, e1, e2, hx⟩ := Hr.out.at i hi
  have hcl : p[i].code.length ≤ 9223372036854775807 := by obtain ⟨_, _, _, h, _⟩ := hx; exact h
  have Hi : Hid (r = decide (∃ h : j < p[i].code.length, p[i].code[j].1 = 31)) := by
    show r = _
    rw [HR.out]
    exact decide_eq_decide.2 (jzAt_nat hi)
  obtain ⟨Ac, capc, rfl⟩ := hx.form
  clear HR
  by_cases h3 : j < p[i].code.length
  case neg =>
    have HF : Hid (r = false) := Hi.out.trans (decide_eq_false (fun h => h3 h.1))
    have h3' : ¬ ((j : Int) < p[i].code.length) := by omega
    clear Hi hx
    go_enter Tryz.func75, Tryz.ntmps75
    go_wp2_with fail
    go_ret
    exact ⟨by rw [HF.out]; rfl, Hb.out⟩
  obtain ⟨bc, offc, rfl, hltc, d0, d1⟩ := hx.at j h3
  have h3' : ((j : Int) < p[i].code.length) := by omega
  have HF : Hid (r = (p[i].code[j].1 == 31)) := by
    show r = _
    rw [Hi.out, Bool.eq_iff_iff]
    simp [h3]
  clear Hi hx
  go_enter Tryz.func75, Tryz.ntmps75
  go_wp2_with fail
  go_ret
  exact ⟨by rw [HF.out]; rfl, Hb.out⟩

/-- a truth told -/
def SnToldS (P : Prop) (w w' : World) (e : Ending) : Prop := ∃ b : Bool, e = .returned (.bool b) ∧ Below w.heap.size w w' ∧ (b = true ↔ P)

set_option maxRecDepth 100000 in
set_option maxHeartbeats 6400000 in
theorem specSeen (vp vl : Value) (p : List FnM) (l : List SnM) (w : World) (hr : FnRow 0 w vp p) (hp : ∀ g ∈ p, g.ok) (hs : SnRow 0 w vl l) (hok : ∀ s ∈ l, s.ok) :
    Calls Tryz.prog 46 #[.agg #[vp], vl] w fun e w' => SnToldS (SnRight p l) w w' e := by
  have Hr : Hid (FnRow 0 w vp p) := hr
  have Hs : Hid (SnRow 0 w vl l) := hs
  have Hp : Hid (∀ g ∈ p, g.ok) := hp
  have Hok : Hid (∀ s ∈ l, s.ok) := hok
  have hll := hs.len
  obtain ⟨A, cap, rfl⟩ := hr.form
  obtain ⟨A1, a1, rfl⟩ := hs.form
  clear hr hs hp hok
  have X0 : Hid (Box _ w.heap.size #[.slice A p.length cap]) := box_new w #[.slice A p.length cap] 25
  have X2 : Hid (Below w.heap.size w (w.alloc (.cells #[.slice A p.length cap] 25))) := (Below.refl _ _).alloc (Nat.le_refl _) _
  by_cases h400 : l.length ≤ 400
  case neg =>
    have h400' : (400 : Int) < l.length := by omega
    have HF : Hid (¬ SnRight p l) := fun h => h400 h.1
    go_enter Tryz.func46, Tryz.ntmps46
    go_wp2_with fail
    go_ret
    exact ⟨false, rfl, X2.out, by simpa using HF.out⟩
  have h400' : decide ((400 : Int) < l.length) = false := by simp; omega
  go_enter Tryz.func46, Tryz.ntmps46
  go_wp2_with fail
  refine (specRightP _ p _ (Hr.out.below X2.out) Hp.out).mono ?_
  rintro e w1 ⟨b, rfl, hb1, hiff⟩
  have Hb1 : Hid (Below w.heap.size w w1) := X2.out.trans (hb1.mono X2.out.size)
  have B0 : Hid (Box w1 w.heap.size #[.slice A p.length cap]) := X0.out.below hb1
  clear hb1 X0 X2
  cases b with
  | false =>
    have HF : Hid (¬ SnRight p l) := fun h => by have := hiff.2 h.2.1; simp at this
    clear hiff
    go_wp2_with fail
    go_ret
    exact ⟨false, rfl, Hb1.out, by simpa using HF.out⟩
  | true =>
    have HR : Hid (RightP p) := hiff.1 rfl
    clear hiff h400'
    go_wp2_with fail
    go_loopg [5] (l.length) (fun gg i wr => ∃ k : Nat, k ≤ l.length ∧ i = .int .i64 k ∧ l.length ≤ k + gg ∧ Box wr w.heap.size #[.slice A p.length cap] ∧ Below w.heap.size w wr ∧ ∀ j, j < k → SnOk p l j)
    case atStart => exact ⟨0, Nat.zero_le _, rfl, by omega, B0.out, Hb1.out, fun j h => by omega⟩
    case round =>
      clear B0 Hb1
      obtain ⟨k, hk, rfl, hkg, hB, hb, hall⟩ := hrel
      have Hb : Hid (Below w.heap.size w wr) := hb
      have HB : Hid (Box wr w.heap.size #[.slice A p.length cap]) := hB
      have Hall : Hid (∀ j, j < k → SnOk p l j) := hall
      have q0 := hB.at0
      have q1 := hB.1
      clear hb hall hB
      by_cases hkl : k < l.length
      case neg =>
        have HT : Hid (SnRight p l) := ⟨h400, HR.out, fun j hj => Hall.out j (by omega)⟩
        go_wp2_with fail
        go_ret
        exact ⟨true, rfl, Hb.out, by simpa using HT.out⟩
      obtain ⟨b0, off0, rfl, hlt, d0, d1, d2, d3⟩ := (Hs.out.below Hb.out).at k hkl
      obtain ⟨s, hs⟩ : ∃ s, s = l[k] := ⟨_, rfl⟩
      have Hsn : Hid (snAt l k = s) := by show snAt l k = s; rw [snAt_get l k hkl, hs]
      have hsok : s.ok := by rw [hs]; exact Hok.out _ (List.getElem_mem hkl)
      rw [← hs] at d0 d1 d2 d3
      clear hs
      obtain ⟨f, a, u, t⟩ := s
      obtain ⟨_, _, ⟨o1, o2⟩, ⟨o3, o4⟩⟩ := hsok
      simp only at d0 d1 d2 d3 o1 o2 o3 o4
      have hal : Below wr.heap.size wr (wr.alloc (.cells #[.int .i64 f, .int .i64 a, .int .i64 u, .int .i64 t] 83)) := (Below.refl _ _).alloc (Nat.le_refl _) _
      have X1 : Hid (Box (wr.alloc (.cells #[.int .i64 f, .int .i64 a, .int .i64 u, .int .i64 t] 83)) wr.heap.size #[.int .i64 f, .int .i64 a, .int .i64 u, .int .i64 t]) := box_new wr _ _
      have HB1 : Hid (Box (wr.alloc (.cells #[.int .i64 f, .int .i64 a, .int .i64 u, .int .i64 t] 83)) w.heap.size #[.slice A p.length cap]) := HB.out.below hal
      have Hal : Hid (Below w.heap.size w (wr.alloc (.cells #[.int .i64 f, .int .i64 a, .int .i64 u, .int .i64 t] 83))) := Hb.out.trans (hal.mono Hb.out.size)
      clear hal
      have hJ := specJz (.slice A p.length cap) p f a _ (Hr.out.below Hal.out)
      obtain ⟨bj, hbj⟩ : ∃ bj, bj = decide (JzAt p f a) := ⟨_, rfl⟩
      rw [← hbj] at hJ
      have Hbj : Hid (bj = decide (JzAt p f a)) := hbj
      have HJc : Hid (Calls Tryz.prog 75 #[.agg #[.slice A p.length cap], .int .i64 f, .int .i64 a] (wr.alloc (.cells #[.int .i64 f, .int .i64 a, .int .i64 u, .int .i64 t] 83)) fun e w' => e = .returned (.bool bj) ∧ Below (wr.alloc (.cells #[.int .i64 f, .int .i64 a, .int .i64 u, .int .i64 t] 83)).heap.size (wr.alloc (.cells #[.int .i64 f, .int .i64 a, .int .i64 u, .int .i64 t] 83)) w') := hJ
      clear hJ hbj
      go_wp2_with fail
      refine HJc.out.mono ?_
      rintro e w3 ⟨rfl, hb3⟩
      have Hb3 : Hid (Below w.heap.size w w3) := Hal.out.trans (hb3.mono Hal.out.size)
      have X3 : Hid (Box w3 wr.heap.size #[.int .i64 f, .int .i64 a, .int .i64 u, .int .i64 t]) := X1.out.below hb3
      have HB3 : Hid (Box w3 w.heap.size #[.slice A p.length cap]) := HB1.out.below hb3
      clear hb3 X1 d0 d1 d2 d3 Hal HJc HB1 q0 q1
      have z3 := X3.out.1
      have c0 := X3.out.at0
      have c1 := X3.out.at1
      have c2 := X3.out.at2
      have c3 := X3.out.2 3
      simp at c3
      cases bj with
      | false =>
        have HF : Hid (¬ SnRight p l) := fun h => by
          have := (h.2.2 k hkl).1
          rw [Hsn.out] at this
          exact of_decide_eq_false Hbj.out.symm this
        go_wp2_with fail
        go_ret
        exact ⟨false, rfl, Hb3.out, by simpa using HF.out⟩
      | true =>
        have HJ : Hid (JzAt p f a) := (of_decide_eq_true Hbj.out.symm : JzAt p f a)
        by_cases hu0 : u < 0
        case pos =>
          have HF : Hid (¬ SnRight p l) := fun h => by
            have := (h.2.2 k hkl).2.1
            rw [Hsn.out] at this
            unfold cntOk at this
            simp only at this
            omega
          go_wp2_with fail
          go_ret
          exact ⟨false, rfl, Hb3.out, by simpa using HF.out⟩
        by_cases hu1 : 1000000 < u
        case pos =>
          have HF : Hid (¬ SnRight p l) := fun h => by
            have := (h.2.2 k hkl).2.1
            rw [Hsn.out] at this
            unfold cntOk at this
            simp only at this
            omega
          go_wp2_with fail
          go_ret
          exact ⟨false, rfl, Hb3.out, by simpa using HF.out⟩
        by_cases ht0 : t < 0
        case pos =>
          have HF : Hid (¬ SnRight p l) := fun h => by
            have := (h.2.2 k hkl).2.1
            rw [Hsn.out] at this
            unfold cntOk at this
            simp only at this
            omega
          go_wp2_with fail
          go_ret
          exact ⟨false, rfl, Hb3.out, by simpa using HF.out⟩
        by_cases ht1 : 1000000 < t
        case pos =>
          have HF : Hid (¬ SnRight p l) := fun h => by
            have := (h.2.2 k hkl).2.1
            rw [Hsn.out] at this
            unfold cntOk at this
            simp only at this
            omega
          go_wp2_with fail
          go_ret
          exact ⟨false, rfl, Hb3.out, by simpa using HF.out⟩
        by_cases hz : u + t = 0
        case pos =>
          have HF : Hid (¬ SnRight p l) := fun h => by
            have := (h.2.2 k hkl).2.1
            rw [Hsn.out] at this
            unfold cntOk at this
            simp only at this
            omega
          go_wp2_with fail
          go_ret
          exact ⟨false, rfl, Hb3.out, by simpa using HF.out⟩
        have HC : Hid (cntOk ⟨f, a, u, t⟩) := by show cntOk ⟨f, a, u, t⟩; unfold cntOk; simp only; omega
        have e1 : decide (u < 0) = false := by simp; omega
        have e2 : decide (1000000 < u) = false := by simp; omega
        have e3 : decide (t < 0) = false := by simp; omega
        have e4 : decide (1000000 < t) = false := by simp; omega
        have e5 : (u + t == 0) = false := by simpa using hz
        rcases Nat.eq_zero_or_pos k with h0 | h0
        · subst h0
          have HO : Hid (SnOk p l 0) := ⟨by rw [Hsn.out]; exact HJ.out, by rw [Hsn.out]; exact HC.out, fun h => absurd h (by omega)⟩
          have HO1 : Hid (∀ j, j < 1 → SnOk p l j) := fun j hj => (show 0 = j by omega) ▸ HO.out
          go_wp2_with fail
          go_quiet (fail)
          go_wp2_with fail
          go_roundg (gk - 1)
          case measure => omega
          case rel => exact ⟨1, by omega, by go_num, by omega, HB3.out, below_drewN Hb3.out _, HO1.out⟩
        · have h0' : (0 : Int) < k := by omega
          obtain ⟨bb, offb, hEq, hltb, p0, p1, p2, p3⟩ := (Hs.out.below Hb3.out).at (k - 1) (by omega)
          simp only [Option.some.injEq, Addr.mk.injEq, and_true] at hEq
          obtain ⟨rfl, rfl⟩ := hEq
          obtain ⟨s', hs'⟩ : ∃ s', s' = l[k - 1] := ⟨_, rfl⟩
          have Hsp : Hid (snAt l (k - 1) = s') := by show snAt l (k - 1) = s'; rw [snAt_get l (k - 1) (by omega), hs']
          rw [← hs'] at p0 p1 p2 p3
          clear hs'
          obtain ⟨f', a', u', t'⟩ := s'
          simp only at p0 p1 p2 p3
          obtain ⟨k', rfl⟩ : ∃ k', k = k' + 1 := ⟨k - 1, by omega⟩
          simp only [Nat.add_sub_cancel] at p0 p1 p2 p3 Hsp
          obtain ⟨br, hbr⟩ : ∃ br, br = decide (snLess ⟨f', a', u', t'⟩ ⟨f, a, u, t⟩) := ⟨_, rfl⟩
          have Hbr : Hid (br = decide (snLess ⟨f', a', u', t'⟩ ⟨f, a, u, t⟩)) := hbr
          have Hord : Hid (∀ W, Calls Tryz.prog 76 #[.agg #[.int .i64 f', .int .i64 a', .int .i64 u', .int .i64 t'], .agg #[.int .i64 f, .int .i64 a, .int .i64 u, .int .i64 t]] W fun e w' => e = .returned (.bool br) ∧ Below W.heap.size W w') := fun W => by rw [hbr]; exact specLess ⟨f', a', u', t'⟩ ⟨f, a, u, t⟩ W
          clear hbr
          have hk400 : k' < 400 := by omega
          have hw1 : IntKind.i64.wrap (((k' + 1 : Nat) : Int) - 1) = (k' : Int) := by rw [IntKind.wrap_i64]; omega
          have hw2 : IntKind.i64.wrap ((k' : Int) + 1 - 1) = (k' : Int) := by rw [IntKind.wrap_i64]; omega
          have hw3 : IntKind.i64.wrap (k' : Int) = (k' : Int) := by rw [IntKind.wrap_i64]; omega
          have hkl2 : k' < l.length := by omega
          have hkl3 : (k' : Int) < l.length := by omega
          go_wp2_with fail
          go_cut [71] (fun q wc => q = .bool (!br) ∧ Below w3.heap.size w3 wc)
          case first =>
            go_region_with (go_at_call 76; refine (Hord.out _).mono ?_; rintro e wT ⟨rfl, hbT0⟩; have hbT : Below w3.heap.size w3 wT := (Below.refl _ _).drew.trans (hbT0.mono (Nat.le_refl _)))
            all_goals
              go_wp2_with fail
              go_meet
              exact ⟨rfl, hbT⟩
          case rest =>
            obtain ⟨rfl, hwc⟩ := hcut
            have Hwc : Hid (Below w.heap.size w wc) := Hb3.out.trans (hwc.mono Hb3.out.size)
            have HBc : Hid (Box wc w.heap.size #[.slice A p.length cap]) := HB3.out.below hwc
            clear hwc
            cases br with
            | false =>
              have HF : Hid (¬ SnRight p l) := fun h => by
                have := (h.2.2 (k' + 1) hkl).2.2 (by omega)
                rw [Hsn.out, Nat.add_sub_cancel, Hsp.out] at this
                exact of_decide_eq_false Hbr.out.symm this
              go_wp2_with fail
              go_ret
              exact ⟨false, rfl, Hwc.out, by simpa using HF.out⟩
            | true =>
              have HO : Hid (SnOk p l (k' + 1)) := ⟨by rw [Hsn.out]; exact HJ.out, by rw [Hsn.out]; exact HC.out, fun _ => by
                rw [Hsn.out, Nat.add_sub_cancel, Hsp.out]
                exact of_decide_eq_true Hbr.out.symm⟩
              go_wp2_with fail
              go_roundg (gk - 1)
              case measure => omega
              case rel => exact ⟨k' + 1 + 1, by omega, by go_num, by omega, HBc.out, Hwc.out, fun j hj => if e : j = k' + 1 then by subst e; exact HO.out else Hall.out j (by omega)⟩
end Go.Proofs.YtclcnillnfkjoaaGreatDoor
