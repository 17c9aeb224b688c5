/- impl.Verify, impl.inRight. -/
import Derived.Test.YtijgonjnmibifaaGreatDoorVerF
namespace Go.Proofs.YtijgonjnmibifaaGreatDoor
open Go.RowKit

def VerTold (p : List FnM) (w w' : World) (e : Ending) : Prop :=
  ∃ F A C : Int, e = .returned (.agg #[.int .i64 F, .int .i64 A, .int .i64 C]) ∧ Below w.heap.size w w' ∧ (C = 0 → ∀ g, g < p.length → formOk (fnAt p g) = true) ∧ (ArgsUp p → VerifyIs p F A C)

theorem argsUp_of_form {p : List FnM} (h : ∀ g, g < p.length → formOk (fnAt p g) = true) : ArgsUp p := by
  intro g hg
  obtain ⟨k, hk, rfl⟩ := List.getElem_of_mem hg
  have := h k hk
  rw [fnAt_nat p k hk] at this
  simp [formOk] at this
  omega

set_option maxRecDepth 100000 in
set_option maxHeartbeats 3200000 in
theorem implVerify (v : Value) (p : List FnM) (w : World) (ht : Tab w) (hr : FnRow 0 w v p) :
    Calls Tryz.prog 92 #[.agg #[v]] w fun e w' => VerTold p w w' e := by
  have Hr : Hid (FnRow 0 w v p) := hr
  have Ht : Hid (Tab w) := ht
  have hlen := hr.len
  obtain ⟨A, cap, rfl⟩ := hr.form
  clear hr ht
  obtain ⟨x0, x1, x2⟩ := boxes_new w #[.slice A p.length cap] #[.int .i64 0, .int .i64 0, .int .i64 0] 34 108
  have y1 := vrow_new (w.alloc (.cells #[.slice A p.length cap] 34)) #[.int .i64 0, .int .i64 0, .int .i64 0] 108
  rw [show (w.alloc (.cells #[.slice A p.length cap] 34)).heap.size = w.heap.size + 1 by simp] at y1
  have X0 : Hid (Box _ w.heap.size #[.slice A p.length cap]) := x0
  have X1 : Hid (VRow _ (w.heap.size + 1) (ints [0, 0, 0])) := y1
  have X2 : Hid (Below _ _ _) := x2
  clear x0 x1 x2 y1
  obtain ⟨n, Hn⟩ : ∃ n, Hid (n = p.length) := ⟨_, rfl⟩
  rw [← Hn.out] at hlen X0 X1 X2 Hr ⊢
  by_cases hn0 : n < 1
  · have HF : Hid (VerifyIs p 0 0 1) := .form (by rw [← Hn.out]; omega)
    have Hno : Hid (∀ o o', Below w.heap.size w ((w.alloc o).alloc o')) := fun o o' => ((Below.refl _ _).alloc (Nat.le_refl _) _).alloc (by simp) _
    have hn0' : (n : Int) < 1 := by omega
    clear X0 X1 X2
    go_enter Tryz.func92, Tryz.ntmps92
    go_wp2_with fail
    exact bodyPost_ret (v := .agg #[.int .i64 0, .int .i64 0, .int .i64 1]) (by simp [results, Tryz.results92, go_sem]) rfl
      ⟨0, 0, 1, rfl, Hno.out _ _, fun h => by omega, fun _ => HF.out⟩
  · have hn0' : decide ((n : Int) < 1) = false := by simp; omega
    by_cases hn6 : 6 < n
    · have HF : Hid (VerifyIs p 0 0 1) := .form (by rw [← Hn.out]; omega)
      have Hno : Hid (∀ o o', Below w.heap.size w ((w.alloc o).alloc o')) := fun o o' => ((Below.refl _ _).alloc (Nat.le_refl _) _).alloc (by simp) _
      have hn6' : (6 : Int) < n := by omega
      clear X0 X1 X2
      go_enter Tryz.func92, Tryz.ntmps92
      go_wp2_with fail
      exact bodyPost_ret (v := .agg #[.int .i64 0, .int .i64 0, .int .i64 1]) (by simp [results, Tryz.results92, go_sem]) rfl
        ⟨0, 0, 1, rfl, Hno.out _ _, fun h => by omega, fun _ => HF.out⟩
    · have hn6' : decide ((6 : Int) < n) = false := by simp; omega
      go_enter Tryz.func92, Tryz.ntmps92
      go_wp2_with fail
      go_loopg [19] n (fun g i wr => ∃ k : Nat, k ≤ n ∧ i = .int .i64 k ∧ n ≤ k + g ∧ Box wr w.heap.size #[.slice A n cap] ∧ VRow wr (w.heap.size + 1) (ints [0, 0, 0]) ∧ Below w.heap.size w wr ∧ (∀ j, j < k → formOk (fnAt p j) = true) ∧ (ArgsUp p → ∀ j, j < k → FuncIs p j 0 0))
      case atStart => exact ⟨0, Nat.zero_le _, rfl, by omega, X0.out, X1.out, X2.out, fun j h => by omega, fun _ j h => by omega⟩
      case round =>
        clear X0 X1 X2 hn0' hn6'
        obtain ⟨k, hk, rfl, hkg, hB, hV, hb, hall, hall2⟩ := hrel
        have HB : Hid (Box wr w.heap.size #[.slice A n cap]) := hB
        have HV : Hid (VRow wr (w.heap.size + 1) (ints [0, 0, 0])) := hV
        have Hb : Hid (Below w.heap.size w wr) := hb
        have Hall : Hid ((∀ j, j < k → formOk (fnAt p j) = true) ∧ (ArgsUp p → ∀ j, j < k → FuncIs p j 0 0)) := ⟨hall, hall2⟩
        have c0 := hB.at0
        have cz := hB.1
        clear hB hV hb hall hall2
        by_cases hkl : k < n
        · have hfi := implFunc (.slice A n cap) p k wr (Ht.out.below Hb.out) (Hr.out.below Hb.out) (by rw [← Hn.out]; exact hkl)
          have Hfi : Hid (Calls Tryz.prog 124 #[.agg #[.slice A n cap], .int .i64 k] wr fun e w' => FuncTold p k wr w' e) := hfi
          clear hfi
          go_wp2_with fail
          refine Calls.mono (R := fun e w' => FuncTold p k wr w' e) Hfi.out ?_
          rintro e w2 ⟨F, A2, C, rfl, hb2, hz, hne, his⟩
          have HB2 : Hid (Box w2 w.heap.size #[.slice A n cap]) := HB.out.below hb2
          have HV2 : Hid (VRow w2 (w.heap.size + 1) (ints [0, 0, 0])) := HV.out.below hb2
          have Hb2 : Hid (Below w.heap.size w w2) := Hb.out.trans (hb2.mono Hb.out.size)
          clear hb2 c0 cz HB HV Hfi
          by_cases hC : C = 0
          · subst hC
            obtain ⟨hf0, rfl, rfl⟩ := hz rfl
            have Hf0 : Hid (formOk (fnAt p k) = true ∧ (ArgsUp p → FuncIs p k 0 0)) := ⟨hf0, his⟩
            clear hz hne his hf0
            go_wp2_with fail
            go_roundg (gk - 1)
            case measure => omega
            case rel =>
              have hal : Below w2.heap.size w2 (w2.alloc (.cells #[.int .i64 0, .int .i64 0, .int .i64 0] 108)) := (Below.refl _ _).alloc (Nat.le_refl _) _
              exact ⟨k + 1, by omega, by go_num, by omega, HB2.out.below hal, HV2.out.below hal, Hb2.out.trans (hal.mono Hb2.out.size), fun j hj => if e : j = k then by subst e; exact Hf0.out.1 else Hall.out.1 j (by omega),
                fun hp j hj => if e : j = k then by subst e; exact Hf0.out.2 hp else Hall.out.2 hp j (by omega)⟩
          · have hF := hne hC
            subst hF
            have hC' : (C != 0) = true := by simpa using hC
            have HF : Hid (ArgsUp p → VerifyIs p k A2 C) := fun hp => .fault k A2 C (by rw [← Hn.out]; omega) (by rw [← Hn.out]; omega) (by rw [← Hn.out]; exact hkl) (Hall.out.2 hp) (his hp) hC
            clear hz hne his
            obtain ⟨r0, q0⟩ := HV2.out.int 0 (by simp)
            obtain ⟨r1, q1⟩ := HV2.out.int 1 (by simp)
            obtain ⟨r2, q2⟩ := HV2.out.int 2 (by simp)
            have rz := HV2.out.1
            simp at r0 r1 r2
            go_wp2_with fail
            have HZ : Hid (VRow ((((w2.setCell ⟨w.heap.size + 1, 0, none⟩ (.int .i64 k)).setCell ⟨w.heap.size + 1, 1, none⟩ (.int .i64 A2)).setCell ⟨w.heap.size + 1, 2, none⟩ (.int .i64 C)).alloc (.cells #[.int .i64 k, .int .i64 A2, .int .i64 C] 108)) (w.heap.size + 1) (ints [k, A2, C])) := (HV2.out.put3 _ _ _).below ((Below.refl _ _).alloc (Nat.le_refl _) _)
            have hbz := below_put3 (g := w.heap.size + 1) Hb2.out (.int .i64 k) (.int .i64 A2) (.int .i64 C) (by omega)
            exact bodyPost_ret (v := .agg #[.int .i64 k, .int .i64 A2, .int .i64 C]) (by simp [results, Tryz.results92, go_sem, HZ.out.at0, HZ.out.at1, HZ.out.at2]) rfl
              ⟨k, A2, C, rfl, hbz.alloc hbz.size _, fun h => absurd h hC, HF.out⟩
        · have HA : Hid (∀ g, g < p.length → formOk (fnAt p g) = true) := fun g hg => Hall.out.1 g (by rw [← Hn.out] at hg; omega)
          have HF : Hid (ArgsUp p → VerifyIs p 0 0 0) := fun hp => .ok (by rw [← Hn.out]; omega) (by rw [← Hn.out]; omega) (fun g hg => Hall.out.2 hp g (by rw [← Hn.out] at hg; omega))
          obtain ⟨r0, q0⟩ := HV.out.int 0 (by simp)
          obtain ⟨r1, q1⟩ := HV.out.int 1 (by simp)
          obtain ⟨r2, q2⟩ := HV.out.int 2 (by simp)
          have rz := HV.out.1
          simp at r0 r1 r2
          go_wp2_with fail
          have HZ : Hid (VRow (((wr.setCell ⟨w.heap.size + 1, 0, none⟩ (.int .i64 0)).setCell ⟨w.heap.size + 1, 1, none⟩ (.int .i64 0)).setCell ⟨w.heap.size + 1, 2, none⟩ (.int .i64 0)) (w.heap.size + 1) (ints [0, 0, 0])) := HV.out.put3 _ _ _
          exact bodyPost_ret (v := .agg #[.int .i64 0, .int .i64 0, .int .i64 0]) (by simp [results, Tryz.results92, go_sem, HZ.out.at0, HZ.out.at1, HZ.out.at2]) rfl
            ⟨0, 0, 0, rfl, below_put3 Hb.out _ _ _ (by omega), fun _ => HA.out, HF.out⟩

theorem verTold_right {p : List FnM} {F A C : Int} (h1 : C = 0 → ∀ g, g < p.length → formOk (fnAt p g) = true) (h2 : ArgsUp p → VerifyIs p F A C) : C = 0 ↔ RightP p := by
  constructor
  · intro hc
    subst hc
    have hv := h2 (argsUp_of_form (h1 rfl))
    obtain ⟨a, b, c⟩ := hv.all rfl
    exact .ok a b c
  · intro hr
    have hp : ArgsUp p := fun g hg => by have := hr.args g hg; omega
    exact ((h2 hp).unique hr).2.2

theorem fieldCode (a b c : Int) (W : World) : (Instr.field 108 (.agg #[.int .i64 a, .int .i64 b, .int .i64 c]) 2).run Tryz.prog W = .ok (.int .i64 c) W := by kernel_rfl

set_option maxHeartbeats 1600000 in
theorem implIn (v : Value) (p : List FnM) (f : Int) (w : World) (ht : Tab w) (hr : FnRow 0 w v p) :
    Calls Tryz.prog 57 #[.agg #[v], .int .i64 f] w fun e w' => ∃ b : Bool, e = .returned (.bool b) ∧ Below w.heap.size w w' ∧ (b = true ↔ RightP p ∧ inL f p.length = true) := by
  have Hr : Hid (FnRow 0 w v p) := hr
  have Ht : Hid (Tab w) := ht
  have hlen := hr.len
  obtain ⟨A, cap, rfl⟩ := hr.form
  clear hr ht
  have X0 : Hid (Box _ w.heap.size #[.slice A p.length cap]) := box_new w #[.slice A p.length cap] 34
  have X2 : Hid (Below w.heap.size w (w.alloc (.cells #[.slice A p.length cap] 34))) := (Below.refl _ _).alloc (Nat.le_refl _) _
  have hfc := fieldCode
  go_enter Tryz.func57, Tryz.ntmps57
  go_wp2_with fail
  refine (implVerify _ p _ (Ht.out.below X2.out) (Hr.out.below X2.out)).mono ?_
  rintro e w1 ⟨F, A2, C, rfl, hb1, h1, h2⟩
  have Hiff : Hid (C = 0 ↔ RightP p) := verTold_right h1 h2
  have Hb1 : Hid (Below w.heap.size w w1) := X2.out.trans (hb1.mono X2.out.size)
  have HB : Hid (Box w1 w.heap.size #[.slice A p.length cap]) := X0.out.below hb1
  have c0 := HB.out.at0
  have cz := HB.out.1
  clear hb1 h1 h2 X0 X2
  by_cases hC : C = 0
  · subst hC
    go_wp2_with fail
    refine (inList f p.length _ hlen).mono ?_
    rintro e w2 ⟨rfl, h⟩
    subst w2
    go_wp2_with fail
    go_ret
    exact ⟨_, rfl, Hb1.out, ⟨fun h => ⟨Hiff.out.1 (by first | rfl | trivial), h⟩, fun h => h.2⟩⟩
  · have hC' : (C == 0) = false := by simpa using hC
    go_wp2_with fail
    go_ret
    exact ⟨false, rfl, Hb1.out, ⟨fun h => by simp at h, fun h => absurd (Hiff.out.2 h.1) hC⟩⟩
end Go.Proofs.YtijgonjnmibifaaGreatDoor
