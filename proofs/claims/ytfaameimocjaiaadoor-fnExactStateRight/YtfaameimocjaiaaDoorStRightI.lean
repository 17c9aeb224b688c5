/- impl.StateRight. -/
import Derived.Test.YtfaameimocjaiaaDoorFrameW
import Derived.Test.YtfaameimocjaiaaDoorToldW
namespace Go.Proofs.YtfaameimocjaiaaDoor
open Go.RowKit

def FrTold (P : Prop) (w w' : World) (e : Ending) : Prop := ∃ b : Bool, e = .returned (.bool b) ∧ Below w.heap.size w w' ∧ (b = true ↔ P)

set_option maxRecDepth 100000 in
set_option maxHeartbeats 3200000 in
theorem implStRight (vp x y z : Value) (p : List FnM) (s : StM) (w : World) (ht : Tab w) (hr : FnRow 0 w vp p) (hs : StRow 0 w x y z s) (hok : s.ok) :
    Calls Tryd.prog 23 #[.agg #[vp], stV x y z s] w fun e w' => FrTold (StRightI p s) w w' e := by
  have Hr : Hid (FnRow 0 w vp p) := hr
  have Hs : Hid (StRow 0 w x y z s) := hs
  have Ht : Hid (Tab w) := ht
  have Hok : Hid s.ok := hok
  have hlf := hs.1.len
  obtain ⟨A, cap, rfl⟩ := hr.form
  obtain ⟨A1, a1, rfl⟩ := hs.1.form
  obtain ⟨A2, a2, rfl⟩ := hs.2.1.form
  obtain ⟨A3, a3, rfl⟩ := hs.2.2.form
  clear hr hs ht hok
  unfold stV
  obtain ⟨t0, t1, t2⟩ := boxes_new w #[.slice A p.length cap] #[.slice A1 s.frames.length a1, .slice A2 s.heap.length a2, .slice A3 s.out.length a3, .int .i64 s.fuel, .bool s.done, .int .i64 s.value, .int .i64 s.trap] 29 37
  have T0 : Hid (Box _ w.heap.size #[.slice A p.length cap]) := t0
  have T1 : Hid (StBox _ (w.heap.size + 1) (.slice A1 s.frames.length a1) (.slice A2 s.heap.length a2) (.slice A3 s.out.length a3) s) := t1
  have T2 : Hid (Below w.heap.size w _) := t2
  clear t0 t1 t2
  have hfc := fieldCode
  go_enter Tryd.func23, Tryd.ntmps23
  go_wp2_with fail
  refine (implVerify _ p _ (Ht.out.below T2.out) (Hr.out.below T2.out)).mono ?_
  rintro e w1 ⟨F, A9, C, rfl, hb1, h1, h2⟩
  have hiff : C = 0 ↔ RightP p := verTold_right h1 h2
  have Hb1 : Hid (Below w.heap.size w w1) := T2.out.trans (hb1.mono T2.out.size)
  have B0 : Hid (Box w1 w.heap.size #[.slice A p.length cap]) := T0.out.below hb1
  have B1 : Hid (StBox w1 (w.heap.size + 1) (.slice A1 s.frames.length a1) (.slice A2 s.heap.length a2) (.slice A3 s.out.length a3) s) := T1.out.below hb1
  clear hb1 T0 T1 T2 h1 h2
  by_cases hC : C = 0
  case neg =>
    have HF : Hid (¬ StRightI p s) := fun h => hC (hiff.2 h.1)
    have hC' : (C != 0) = true := by simpa using hC
    clear hiff
    go_wp2_with fail
    go_ret
    exact ⟨false, rfl, Hb1.out, by simpa using HF.out⟩
  have HR : Hid (RightP p) := hiff.1 hC
  subst hC
  clear hiff
  obtain ⟨c7, c0, c1, c2, c3, c4, c5, c6⟩ := B1.out.cells
  go_wp2_with fail
  refine (implTold (.slice A1 s.frames.length a1) (.slice A2 s.heap.length a2) (.slice A3 s.out.length a3) s _ (Hs.out.below Hb1.out) Hok.out).mono ?_
  rintro e w2 ⟨rfl, hb2⟩
  have Hb2 : Hid (Below w.heap.size w w2) := Hb1.out.trans (hb2.mono Hb1.out.size)
  have D0 : Hid (Box w2 w.heap.size #[.slice A p.length cap]) := B0.out.below hb2
  have D1 : Hid (StBox w2 (w.heap.size + 1) (.slice A1 s.frames.length a1) (.slice A2 s.heap.length a2) (.slice A3 s.out.length a3) s) := B1.out.below hb2
  clear hb2 B0 B1 c0 c1 c2 c3 c4 c5 c6 c7
  obtain ⟨bt, hbt⟩ : ∃ bt, bt = (restOk s && toldOk s) := ⟨_, rfl⟩
  rw [← hbt]
  cases bt with
  | false =>
    have HF : Hid (¬ StRightI p s) := fun h => by rw [h.2.1, h.2.2.1] at hbt; simp at hbt
    clear hbt
    go_wp2_with fail
    go_ret
    exact ⟨false, rfl, Hb2.out, by simpa using HF.out⟩
  | true =>
    have Hbt : Hid (restOk s = true ∧ toldOk s = true) := by show restOk s = true ∧ toldOk s = true; simpa using hbt.symm
    clear hbt
    obtain ⟨c7, c0, -⟩ := D1.out.cells
    go_wp2_with fail
    go_loopg [21] (s.frames.length) (fun g i wr => ∃ k : Nat, k ≤ s.frames.length ∧ i = .int .i64 k ∧ s.frames.length ≤ k + g ∧ Box wr w.heap.size #[.slice A p.length cap] ∧ StBox wr (w.heap.size + 1) (.slice A1 s.frames.length a1) (.slice A2 s.heap.length a2) (.slice A3 s.out.length a3) s ∧ Below w.heap.size w wr ∧ ∀ j, j < k → FrOkI p s.frames j)
    case atStart => exact ⟨0, Nat.zero_le _, rfl, by omega, D0.out, D1.out, Hb2.out, fun j h => by omega⟩
    case round =>
      clear c7 c0
      obtain ⟨k, hk, rfl, hkg, hB0, hB1, hb, hall⟩ := hrel
      have Hb : Hid (Below w.heap.size w wr) := hb
      have HB0 : Hid (Box wr w.heap.size #[.slice A p.length cap]) := hB0
      have HB1 : Hid (StBox wr (w.heap.size + 1) (.slice A1 s.frames.length a1) (.slice A2 s.heap.length a2) (.slice A3 s.out.length a3) s) := hB1
      have Hall : Hid (∀ j, j < k → FrOkI p s.frames j) := hall
      have q0 := hB0.at0
      have z0 := hB0.1
      obtain ⟨z1, q1, -⟩ := hB1.cells
      clear hB0 hB1 hb hall
      by_cases hkl : k < s.frames.length
      · have hfr := implFrame (.slice A p.length cap) (.slice A1 s.frames.length a1) p s.frames k wr (Ht.out.below Hb.out) (Hr.out.below Hb.out) (Hs.out.1.below Hb.out) HR.out hkl Hok.out.1
        have Hfr : Hid (Calls Tryd.prog 55 #[.agg #[.slice A p.length cap], .slice A1 s.frames.length a1, .int .i64 k] wr fun e w' => FrTold (FrOkI p s.frames k) wr w' e) := hfr
        clear hfr
        go_wp2_with fail
        refine Calls.mono (R := fun e w' => FrTold (FrOkI p s.frames k) wr w' e) Hfr.out ?_
        rintro e w3 ⟨b, rfl, hb3, hbi⟩
        have Hb3 : Hid (Below w.heap.size w w3) := Hb.out.trans (hb3.mono Hb.out.size)
        have E0 : Hid (Box w3 w.heap.size #[.slice A p.length cap]) := HB0.out.below hb3
        have E1 : Hid (StBox w3 (w.heap.size + 1) (.slice A1 s.frames.length a1) (.slice A2 s.heap.length a2) (.slice A3 s.out.length a3) s) := HB1.out.below hb3
        clear hb3 Hfr q0 q1 z0 z1
        cases b with
        | false =>
          have HF : Hid (¬ StRightI p s) := fun h => by have := hbi.2 (h.2.2.2 k hkl); simp at this
          clear hbi
          go_wp2_with fail
          go_ret
          exact ⟨false, rfl, Hb3.out, by simpa using HF.out⟩
        | true =>
          have HF : Hid (FrOkI p s.frames k) := hbi.1 rfl
          clear hbi
          go_wp2_with fail
          go_roundg (gk - 1)
          case measure => omega
          case rel => exact ⟨k + 1, by omega, by go_num, by omega, E0.out, E1.out, Hb3.out, fun j hj => if e : j = k then by subst e; exact HF.out else Hall.out j (by omega)⟩
      · go_wp2_with fail
        go_ret
        exact ⟨true, rfl, Hb.out, by simpa using ⟨HR.out, Hbt.out.1, Hbt.out.2, fun j hj => Hall.out j (by omega)⟩⟩
end Go.Proofs.YtfaameimocjaiaaDoor
