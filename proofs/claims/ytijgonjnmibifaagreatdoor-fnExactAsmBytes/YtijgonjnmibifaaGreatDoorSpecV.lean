/- spec.Verify, spec.l04Right, spec.l04Is, spec.Heights. -/
import Derived.Test.YtijgonjnmibifaaGreatDoorSpecF
import Derived.Test.YtijgonjnmibifaaGreatDoorHeiI
namespace Go.Proofs.YtijgonjnmibifaaGreatDoor
open Go.RowKit

def SVerTold (p : List FnM) (w w' : World) (e : Ending) : Prop :=
  ∃ F A C : Int, e = .returned (.agg #[.int .i64 F, .int .i64 A, .int .i64 C]) ∧ Below w.heap.size w w' ∧ VerifyIs p F A C

set_option maxRecDepth 100000 in
set_option maxHeartbeats 3200000 in
theorem specVerify (v : Value) (p : List FnM) (w : World) (hr : FnRow 0 w v p) (hp : ∀ g ∈ p, g.ok) :
    Calls Tryz.prog 121 #[.agg #[v]] w fun e w' => SVerTold p w w' e := by
  have Hr : Hid (FnRow 0 w v p) := hr
  have Hp : Hid (∀ g ∈ p, g.ok) := hp
  have hlen := hr.len
  obtain ⟨A, cap, rfl⟩ := hr.form
  clear hr hp
  obtain ⟨x0, x1, x2⟩ := boxes_new w #[.slice A p.length cap] #[.int .i64 0, .int .i64 0, .int .i64 0] 34 108
  have y1 := vrow_new (w.alloc (.cells #[.slice A p.length cap] 34)) #[.int .i64 0, .int .i64 0, .int .i64 0] 108
  rw [show (w.alloc (.cells #[.slice A p.length cap] 34)).heap.size = w.heap.size + 1 by simp] at y1
  have X0 : Hid (Box _ w.heap.size #[.slice A p.length cap]) := x0
  have X1 : Hid (VRow _ (w.heap.size + 1) (ints [0, 0, 0])) := y1
  have X2 : Hid (Below _ _ _) := x2
  clear x0 x1 x2 y1
  obtain ⟨n, Hn⟩ : ∃ n, Hid (n = p.length) := ⟨_, rfl⟩
  rw [← Hn.out] at hlen X0 X1 X2 Hr ⊢
  by_cases hn0 : n < 1
  · have HF : Hid (VerifyIs p 0 0 1) := .form (by rw [← Hn.out]; omega)
    have Hno : Hid (∀ o o', Below w.heap.size w ((w.alloc o).alloc o')) := fun o o' => ((Below.refl _ _).alloc (Nat.le_refl _) _).alloc (by simp) _
    have hn0' : (n : Int) < 1 := by omega
    clear X0 X1 X2
    go_enter Tryz.func121, Tryz.ntmps121
    go_wp2_with fail
    exact bodyPost_ret (v := .agg #[.int .i64 0, .int .i64 0, .int .i64 1]) (by simp [results, Tryz.results121, go_sem]) rfl ⟨0, 0, 1, rfl, Hno.out _ _, HF.out⟩
  · have hn0' : decide ((n : Int) < 1) = false := by simp; omega
    by_cases hn6 : 6 < n
    · have HF : Hid (VerifyIs p 0 0 1) := .form (by rw [← Hn.out]; omega)
      have Hno : Hid (∀ o o', Below w.heap.size w ((w.alloc o).alloc o')) := fun o o' => ((Below.refl _ _).alloc (Nat.le_refl _) _).alloc (by simp) _
      have hn6' : (6 : Int) < n := by omega
      clear X0 X1 X2
      go_enter Tryz.func121, Tryz.ntmps121
      go_wp2_with fail
      exact bodyPost_ret (v := .agg #[.int .i64 0, .int .i64 0, .int .i64 1]) (by simp [results, Tryz.results121, go_sem]) rfl ⟨0, 0, 1, rfl, Hno.out _ _, HF.out⟩
    · have hn6' : decide ((6 : Int) < n) = false := by simp; omega
      go_enter Tryz.func121, Tryz.ntmps121
      go_wp2_with fail
      go_loopg [3] n (fun g i wr => ∃ k : Nat, k ≤ n ∧ i = .int .i64 k ∧ n ≤ k + g ∧ Box wr w.heap.size #[.slice A n cap] ∧ VRow wr (w.heap.size + 1) (ints [0, 0, 0]) ∧ Below w.heap.size w wr ∧ ∀ j, j < k → FuncIs p j 0 0)
      case atStart => exact ⟨0, Nat.zero_le _, rfl, by omega, X0.out, X1.out, X2.out, fun j h => by omega⟩
      case round =>
        clear X0 X1 X2 hn0' hn6'
        obtain ⟨k, hk, rfl, hkg, hB, hV, hb, hall⟩ := hrel
        have HB : Hid (Box wr w.heap.size #[.slice A n cap]) := hB
        have HV : Hid (VRow wr (w.heap.size + 1) (ints [0, 0, 0])) := hV
        have Hb : Hid (Below w.heap.size w wr) := hb
        have Hall : Hid (∀ j, j < k → FuncIs p j 0 0) := hall
        have c0 := hB.at0
        have cz := hB.1
        clear hB hV hb hall
        by_cases hkl : k < n
        · have hfi := specFunc (.slice A n cap) p k wr (Hr.out.below Hb.out) Hp.out (by rw [← Hn.out]; exact hkl)
          have Hfi : Hid (Calls Tryz.prog 138 #[.agg #[.slice A n cap], .int .i64 k] wr fun e w' => SFuncTold p k wr w' e) := hfi
          clear hfi
          go_wp2_with fail
          refine Calls.mono (R := fun e w' => SFuncTold p k wr w' e) Hfi.out ?_
          rintro e w2 ⟨F, A2, C, rfl, hb2, hz, hne, his⟩
          have HB2 : Hid (Box w2 w.heap.size #[.slice A n cap]) := HB.out.below hb2
          have HV2 : Hid (VRow w2 (w.heap.size + 1) (ints [0, 0, 0])) := HV.out.below hb2
          have Hb2 : Hid (Below w.heap.size w w2) := Hb.out.trans (hb2.mono Hb.out.size)
          clear hb2 c0 cz HB HV Hfi
          by_cases hC : C = 0
          · subst hC
            obtain ⟨rfl, rfl⟩ := hz rfl
            have Hf0 : Hid (FuncIs p k 0 0) := his
            clear hz hne his
            go_wp2_with fail
            go_roundg (gk - 1)
            case measure => omega
            case rel =>
              have hal : Below w2.heap.size w2 (w2.alloc (.cells #[.int .i64 0, .int .i64 0, .int .i64 0] 108)) := (Below.refl _ _).alloc (Nat.le_refl _) _
              exact ⟨k + 1, by omega, by go_num, by omega, HB2.out.below hal, HV2.out.below hal, Hb2.out.trans (hal.mono Hb2.out.size), fun j hj => if e : j = k then by subst e; exact Hf0.out else Hall.out j (by omega)⟩
          · have hF := hne hC
            subst hF
            have hC' : (C != 0) = true := by simpa using hC
            have HF : Hid (VerifyIs p k A2 C) := .fault k A2 C (by rw [← Hn.out]; omega) (by rw [← Hn.out]; omega) (by rw [← Hn.out]; exact hkl) Hall.out his hC
            clear hz hne his
            obtain ⟨r0, q0⟩ := HV2.out.int 0 (by simp)
            obtain ⟨r1, q1⟩ := HV2.out.int 1 (by simp)
            obtain ⟨r2, q2⟩ := HV2.out.int 2 (by simp)
            have rz := HV2.out.1
            simp at r0 r1 r2
            go_wp2_with fail
            have HZ : Hid (VRow ((((w2.setCell ⟨w.heap.size + 1, 0, none⟩ (.int .i64 k)).setCell ⟨w.heap.size + 1, 1, none⟩ (.int .i64 A2)).setCell ⟨w.heap.size + 1, 2, none⟩ (.int .i64 C)).alloc (.cells #[.int .i64 k, .int .i64 A2, .int .i64 C] 108)) (w.heap.size + 1) (ints [k, A2, C])) := (HV2.out.put3 _ _ _).below ((Below.refl _ _).alloc (Nat.le_refl _) _)
            have hbz := below_put3 (g := w.heap.size + 1) Hb2.out (.int .i64 k) (.int .i64 A2) (.int .i64 C) (by omega)
            exact bodyPost_ret (v := .agg #[.int .i64 k, .int .i64 A2, .int .i64 C]) (by simp [results, Tryz.results121, go_sem, HZ.out.at0, HZ.out.at1, HZ.out.at2]) rfl
              ⟨k, A2, C, rfl, hbz.alloc hbz.size _, HF.out⟩
        · have HF : Hid (VerifyIs p 0 0 0) := .ok (by rw [← Hn.out]; omega) (by rw [← Hn.out]; omega) (fun g hg => Hall.out g (by rw [← Hn.out] at hg; omega))
          obtain ⟨r0, q0⟩ := HV.out.int 0 (by simp)
          obtain ⟨r1, q1⟩ := HV.out.int 1 (by simp)
          obtain ⟨r2, q2⟩ := HV.out.int 2 (by simp)
          have rz := HV.out.1
          simp at r0 r1 r2
          go_wp2_with fail
          have HZ : Hid (VRow (((wr.setCell ⟨w.heap.size + 1, 0, none⟩ (.int .i64 0)).setCell ⟨w.heap.size + 1, 1, none⟩ (.int .i64 0)).setCell ⟨w.heap.size + 1, 2, none⟩ (.int .i64 0)) (w.heap.size + 1) (ints [0, 0, 0])) := HV.out.put3 _ _ _
          exact bodyPost_ret (v := .agg #[.int .i64 0, .int .i64 0, .int .i64 0]) (by simp [results, Tryz.results121, go_sem, HZ.out.at0, HZ.out.at1, HZ.out.at2]) rfl
            ⟨0, 0, 0, rfl, below_put3 Hb.out _ _ _ (by omega), HF.out⟩

theorem verifyIs_right {p : List FnM} {F A C : Int} (h : VerifyIs p F A C) : C = 0 ↔ RightP p := by
  constructor
  · intro hc
    subst hc
    obtain ⟨a, b, c⟩ := h.all rfl
    exact .ok a b c
  · intro hr
    exact (h.unique hr).2.2

set_option maxHeartbeats 1600000 in
theorem specRightP (v : Value) (p : List FnM) (w : World) (hr : FnRow 0 w v p) (hp : ∀ g ∈ p, g.ok) :
    Calls Tryz.prog 81 #[.agg #[v]] w fun e w' => ∃ b : Bool, e = .returned (.bool b) ∧ Below w.heap.size w w' ∧ (b = true ↔ RightP p) := by
  have Hr : Hid (FnRow 0 w v p) := hr
  have Hp : Hid (∀ g ∈ p, g.ok) := hp
  obtain ⟨A, cap, rfl⟩ := hr.form
  clear hr hp
  have X2 : Hid (Below w.heap.size w (w.alloc (.cells #[.slice A p.length cap] 34))) := (Below.refl _ _).alloc (Nat.le_refl _) _
  have hfc := fieldCode
  go_enter Tryz.func81, Tryz.ntmps81
  go_wp2_with fail
  refine (specVerify _ p _ (Hr.out.below X2.out) Hp.out).mono ?_
  rintro e w1 ⟨F, A2, C, rfl, hb1, h1⟩
  have Hiff : Hid (C = 0 ↔ RightP p) := verifyIs_right h1
  have Hb1 : Hid (Below w.heap.size w w1) := X2.out.trans (hb1.mono X2.out.size)
  clear hb1 h1 X2
  go_wp2_with fail
  go_ret
  exact ⟨_, rfl, Hb1.out, by rw [← Hiff.out]; simp⟩

set_option maxHeartbeats 1600000 in
theorem specIs (v : Value) (p : List FnM) (f : Int) (w : World) (hr : FnRow 0 w v p) (hp : ∀ g ∈ p, g.ok) :
    Calls Tryz.prog 49 #[.agg #[v], .int .i64 f] w fun e w' => ∃ b : Bool, e = .returned (.bool b) ∧ Below w.heap.size w w' ∧ (b = true ↔ RightP p ∧ inL f p.length = true) := by
  have Hr : Hid (FnRow 0 w v p) := hr
  have Hp : Hid (∀ g ∈ p, g.ok) := hp
  have hlen := hr.len
  obtain ⟨A, cap, rfl⟩ := hr.form
  clear hr hp
  have X0 : Hid (Box _ w.heap.size #[.slice A p.length cap]) := box_new w #[.slice A p.length cap] 34
  have X2 : Hid (Below w.heap.size w (w.alloc (.cells #[.slice A p.length cap] 34))) := (Below.refl _ _).alloc (Nat.le_refl _) _
  go_enter Tryz.func49, Tryz.ntmps49
  go_wp2_with fail
  refine (specRightP _ p _ (Hr.out.below X2.out) Hp.out).mono ?_
  rintro e w1 ⟨b, rfl, hb1, hiff⟩
  have Hiff : Hid (b = true ↔ RightP p) := hiff
  have Hb1 : Hid (Below w.heap.size w w1) := X2.out.trans (hb1.mono X2.out.size)
  have HB : Hid (Box w1 w.heap.size #[.slice A p.length cap]) := X0.out.below hb1
  have c0 := HB.out.at0
  have cz := HB.out.1
  clear hb1 hiff X0 X2
  cases b with
  | false =>
    go_wp2_with fail
    go_ret
    exact ⟨false, rfl, Hb1.out, ⟨fun h => by simp at h, fun h => by have := Hiff.out.2 h.1; simp at this⟩⟩
  | true =>
    have HR : Hid (RightP p) := Hiff.out.1 rfl
    by_cases h0 : 0 ≤ f
    · by_cases h1 : f < p.length
      · go_wp2_with fail
        go_ret
        exact ⟨true, rfl, Hb1.out, ⟨fun _ => ⟨HR.out, by simp [inL]; omega⟩, fun _ => rfl⟩⟩
      · have h1' : decide (f < (p.length : Int)) = false := by simp; omega
        go_wp2_with fail
        go_ret
        exact ⟨false, rfl, Hb1.out, ⟨fun h => by simp at h, fun h => by have := h.2; simp [inL] at this; omega⟩⟩
    · have h0' : decide (0 ≤ f) = false := by simp; omega
      go_wp2_with fail
      go_ret
      exact ⟨false, rfl, Hb1.out, ⟨fun h => by simp at h, fun h => by have := h.2; simp [inL] at this; omega⟩⟩

end Go.Proofs.YtijgonjnmibifaaGreatDoor
