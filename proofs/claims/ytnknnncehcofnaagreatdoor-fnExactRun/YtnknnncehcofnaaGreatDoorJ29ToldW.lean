/- What a state tells beside its frames: impl.fuelRight, trapRight, heapRight, toldRight; spec.l06Rest, l06Ends. impl.StateRight. -/
import Derived.Test.YtnknnncehcofnaaGreatDoorJ13RightP6
import Derived.Test.YtnknnncehcofnaaGreatDoorJ28ArgsS
import Derived.Test.YtnknnncehcofnaaGreatDoorJ14Marks
namespace Go.Proofs.YtnknnncehcofnaaGreatDoor
open Go.RowKit

theorem implFuel (f : Int) (w : World) : Calls Tryz.prog 176 #[.int .i64 f] w fun e w' => e = .returned (.bool (decide (0 ≤ f) && decide (f ≤ 3000))) ∧ w' = w := by
  by_cases h0 : 0 ≤ f
  · go_enter Tryz.func176, Tryz.ntmps176
    go_wp2
    go_ret
    exact ⟨by simp [h0], rfl⟩
  · have h0' : decide (0 ≤ f) = false := by simpa using h0
    go_enter Tryz.func176, Tryz.ntmps176
    go_wp2
    go_ret
    exact ⟨by simp, rfl⟩

theorem implTrapR (f : Int) (w : World) : Calls Tryz.prog 178 #[.int .i64 f] w fun e w' => e = .returned (.bool (decide (11 ≤ f) && decide (f ≤ 15))) ∧ w' = w := by
  by_cases h0 : 11 ≤ f
  · go_enter Tryz.func178, Tryz.ntmps178
    go_wp2
    go_ret
    exact ⟨by simp [h0], rfl⟩
  · have h0' : decide (11 ≤ f) = false := by simpa using h0
    go_enter Tryz.func178, Tryz.ntmps178
    go_wp2
    go_ret
    exact ⟨by simp, rfl⟩

theorem heapOk_not {hp : List (List Int)} (k : Nat) (h : k < hp.length) (hb : 50 < hp[k].length) : heapOk hp = false := by
  unfold heapOk
  rw [Bool.and_eq_false_iff]
  right
  rw [List.all_eq_false]
  exact ⟨hp[k], List.getElem_mem h, by simpa using hb⟩

theorem heapOk_yes {hp : List (List Int)} (hl : hp.length ≤ 30) (h : ∀ j (h : j < hp.length), hp[j].length ≤ 50) : heapOk hp = true := by
  unfold heapOk
  rw [Bool.and_eq_true]
  refine ⟨by simpa using hl, ?_⟩
  rw [List.all_eq_true]
  intro a ha
  obtain ⟨k, hk, rfl⟩ := List.getElem_of_mem ha
  simpa using h k hk

set_option maxHeartbeats 800000 in
theorem implHeapR {B : Nat} (v : Value) (hp : List (List Int)) (w : World) (hr : ArrRow B w v hp) :
    Calls Tryz.prog 177 #[v] w fun e w' => e = .returned (.bool (heapOk hp)) ∧ w' = w := by
  have Hr : Hid (ArrRow B w v hp) := hr
  have hlen := hr.len
  obtain ⟨A, cap, rfl⟩ := hr.form
  clear hr
  by_cases hl : hp.length ≤ 30
  · go_enter Tryz.func177, Tryz.ntmps177
    go_wp2
    go_loopg [10] (hp.length) (fun g i wr => ∃ k : Nat, k ≤ hp.length ∧ i = .int .i64 k ∧ hp.length ≤ k + g ∧ wr = w ∧ ∀ j (h : j < hp.length), j < k → hp[j].length ≤ 50)
    case atStart => exact ⟨0, Nat.zero_le _, rfl, by omega, rfl, fun j _ h => by omega⟩
    case round =>
      obtain ⟨k, hk, rfl, hkg, hw, hsame⟩ := hrel
      subst hw
      have Hsame : Hid (∀ j (h : j < hp.length), j < k → hp[j].length ≤ 50) := hsame
      clear hsame
      by_cases hkl : k < hp.length
      · obtain ⟨b, off, x, rfl, hlt, c0, hx⟩ := Hr.out.at k hkl
        have hxl := hx.len
        obtain ⟨Ax, cx, rfl⟩ := hx.form
        clear hx
        by_cases h50 : hp[k].length ≤ 50
        · go_wp2_with fail
          go_roundg (gk - 1)
          case measure => omega
          case rel => exact ⟨k + 1, by omega, by go_num, by omega, rfl, fun j h hj => if e : j = k then by subst e; exact h50 else Hsame.out j h (by omega)⟩
        · have HF : Hid (heapOk hp = false) := heapOk_not k hkl (by omega)
          have h50' : (50 : Int) < hp[k].length := by omega
          go_wp2_with fail
          go_ret
          exact ⟨by rw [HF.out]; rfl, rfl⟩
      · go_wp2_with fail
        go_ret
        exact ⟨by rw [heapOk_yes hl fun j h => Hsame.out j h (by omega)]; rfl, rfl⟩
  · have HF : Hid (heapOk hp = false) := by show heapOk hp = false; unfold heapOk; simp; omega
    have hl' : (30 : Int) < hp.length := by omega
    go_enter Tryz.func177, Tryz.ntmps177
    go_wp2
    go_ret
    exact ⟨by rw [HF.out]; rfl, rfl⟩

set_option maxRecDepth 100000 in
set_option maxHeartbeats 1600000 in
theorem implTold {B : Nat} (x y z : Value) (s : StM) (w : World) (hr : StRow B w x y z s) (hok : s.ok) :
    Calls Tryz.prog 119 #[stV x y z s, .int .i64 s.frames.length] w fun e w' => e = .returned (.bool (restOk s && toldOk s)) ∧ Below w.heap.size w w' := by
  have Hr : Hid (StRow B w x y z s) := hr
  have hlf := hr.1.len
  have hlo := hr.2.2.len
  obtain ⟨A1, a1, rfl⟩ := hr.1.form
  obtain ⟨A2, a2, rfl⟩ := hr.2.1.form
  obtain ⟨A3, a3, rfl⟩ := hr.2.2.form
  obtain ⟨-, -, -, hfu, hva, htr⟩ := hok
  unfold I64 at hfu hva htr
  clear hr
  unfold stV
  have X0 : Hid (StBox (w.alloc (.cells #[.slice A1 s.frames.length a1, .slice A2 s.heap.length a2, .slice A3 s.out.length a3, .int .i64 s.fuel, .bool s.done, .int .i64 s.value, .int .i64 s.trap] 45)) w.heap.size (.slice A1 s.frames.length a1) (.slice A2 s.heap.length a2) (.slice A3 s.out.length a3) s) := stBox_new w _ _ _ s 45
  have X2 : Hid (Below w.heap.size w (w.alloc (.cells #[.slice A1 s.frames.length a1, .slice A2 s.heap.length a2, .slice A3 s.out.length a3, .int .i64 s.fuel, .bool s.done, .int .i64 s.value, .int .i64 s.trap] 45))) := (Below.refl _ _).alloc (Nat.le_refl _) _
  go_enter Tryz.func119, Tryz.ntmps119
  go_wp2_with fail
  refine (implFuel s.fuel _).mono ?_
  rintro e w1 ⟨rfl, hw1⟩
  subst w1
  obtain ⟨bf, hbf⟩ : ∃ bf, bf = (decide (0 ≤ s.fuel) && decide (s.fuel ≤ 3000)) := ⟨_, rfl⟩
  have Hbf : Hid (bf = (decide (0 ≤ s.fuel) && decide (s.fuel ≤ 3000))) := hbf
  rw [← hbf]
  cases bf with
  | false =>
    have HF : Hid ((restOk s && toldOk s) = false) := by show (restOk s && toldOk s) = false; unfold restOk; rw [← hbf]; rfl
    clear hbf
    go_wp2_with fail
    go_ret
    exact ⟨by rw [HF.out]; rfl, X2.out⟩
  | true =>
    have hfu2 : 0 ≤ s.fuel ∧ s.fuel ≤ 3000 := by simpa using hbf.symm
    clear hbf
    go_wp2_with fail
    refine (implHeapR _ s.heap _ (Hr.out.2.1.below X2.out)).mono ?_
    rintro e w1 ⟨rfl, hw1⟩
    subst w1
    obtain ⟨bh, hbh⟩ : ∃ bh, bh = heapOk s.heap := ⟨_, rfl⟩
    have Hbh : Hid (bh = heapOk s.heap) := hbh
    rw [← hbh]
    cases bh with
    | false =>
      have HF : Hid ((restOk s && toldOk s) = false) := by show (restOk s && toldOk s) = false; unfold restOk; rw [← hbh]; simp
      clear hbh
      go_wp2_with fail
      go_ret
      exact ⟨by rw [HF.out]; rfl, X2.out⟩
    | true =>
      clear hbh
      by_cases ho : (s.out.length : Int) ≤ 3000 - s.fuel
      case neg =>
        have HF : Hid ((restOk s && toldOk s) = false) := by show (restOk s && toldOk s) = false; unfold restOk; simp; omega
        have ho' : 3000 - s.fuel < (s.out.length : Int) := by omega
        go_wp2_with fail
        go_ret
        exact ⟨by rw [HF.out]; rfl, X2.out⟩
      have HR : Hid ((restOk s && toldOk s) = toldOk s) := by show (restOk s && toldOk s) = toldOk s; unfold restOk; rw [← Hbh.out, ← Hbf.out]; simp [ho]
      have ho' : decide (3000 - s.fuel < (s.out.length : Int)) = false := by simp; omega
      have Hal : Hid (∀ o : Obj, Below w.heap.size w (w.alloc o)) := fun o => (Below.refl _ _).alloc (Nat.le_refl _) _
      clear X0 X2 Hr
      cases hdn : s.done with
      | false =>
        have HT : Hid (toldOk s = (s.value == 0 && s.trap == 0 && decide (1 ≤ s.frames.length) && decide (s.frames.length ≤ 10))) := by show toldOk s = _; unfold toldOk; rw [hdn]; simp
        clear hdn
        go_wp2_with fail
        all_goals
          go_ret
          refine ⟨?_, Hal.out _⟩
          rw [HR.out, HT.out]
          simp [*] <;> first | omega | (rw [show decide (1 ≤ s.frames.length) = true by simp; omega, Bool.true_and]; congr 1; simp only [eq_iff_iff]; omega)
      | true =>
        by_cases hf0 : s.frames.length = 0
        · have HT : Hid (toldOk s = (s.trap == 0 || (decide (11 ≤ s.trap) && decide (s.trap ≤ 15) && s.value == 0))) := by show toldOk s = _; unfold toldOk; rw [hdn]; simp [List.length_eq_zero_iff.1 hf0]
          rw [hf0]
          clear hdn
          by_cases ht0 : s.trap = 0
          · go_wp2_with fail
            all_goals
              go_ret
              refine ⟨?_, Hal.out _⟩
              rw [HR.out, HT.out]
              simp [ht0]
          · have ht0' : (s.trap == 0) = false := by simpa using ht0
            go_wp2_with fail
            refine (implTrapR s.trap _).mono ?_
            rintro e w1 ⟨rfl, hw1⟩
            subst w1
            obtain ⟨bt, hbt⟩ : ∃ bt, bt = (decide (11 ≤ s.trap) && decide (s.trap ≤ 15)) := ⟨_, rfl⟩
            rw [← hbt]
            have HT2 : Hid (toldOk s = (bt && s.value == 0)) := by show toldOk s = _; rw [HT.out, ← hbt, ht0']; simp
            clear hbt
            cases bt with
            | false =>
              go_wp2_with fail
              go_ret
              exact ⟨by rw [HR.out, HT2.out]; rfl, Hal.out _⟩
            | true =>
              go_wp2_with fail
              all_goals
                go_ret
                refine ⟨?_, Hal.out _⟩
                rw [HR.out, HT2.out]
                simp [*]
        · have HT : Hid (toldOk s = false) := by
            show toldOk s = false
            unfold toldOk
            rw [hdn]
            cases hfr : s.frames with
            | nil => rw [hfr] at hf0; simp at hf0
            | cons a l => simp
          have hf0' : ((s.frames.length : Int) == 0) = false := by simpa using hf0
          clear hdn
          go_wp2_with fail
          go_ret
          exact ⟨by rw [HR.out, HT.out]; rfl, Hal.out _⟩

set_option maxHeartbeats 800000 in
theorem specRest {B C : Nat} (f : Int) (v u : Value) (hp : List (List Int)) (ot : List Int) (w : World) (hr : ArrRow B w v hp) (ht : IRow C w u ot) (hfu : I64 f) :
    Calls Tryz.prog 106 #[.int .i64 f, v, u] w fun e w' => e = .returned (.bool ((decide (0 ≤ f) && decide (f ≤ 3000)) && heapOk hp && decide ((ot.length : Int) ≤ 3000 - f))) ∧ Below w.heap.size w w' := by
  have Hr : Hid (ArrRow B w v hp) := hr
  have hlen := hr.len
  have hlo := ht.len
  obtain ⟨A, cap, rfl⟩ := hr.form
  obtain ⟨D, dap, rfl⟩ := ht.form
  unfold I64 at hfu
  clear hr ht
  obtain ⟨R, HR⟩ : ∃ R, Hid (R = ((decide (0 ≤ f) && decide (f ≤ 3000)) && heapOk hp && decide ((ot.length : Int) ≤ 3000 - f))) := ⟨_, rfl⟩
  rw [← HR.out]
  by_cases h0 : 0 ≤ f
  case neg =>
    have HF : Hid (R = false) := by show R = false; rw [HR.out]; simp [h0]
    have h0' : f < 0 := by omega
    go_enter Tryz.func106, Tryz.ntmps106
    go_wp2
    go_ret
    exact ⟨by rw [HF.out]; rfl, Below.refl _ _⟩
  by_cases h1 : f ≤ 3000
  case neg =>
    have HF : Hid (R = false) := by show R = false; rw [HR.out]; simp [h1]
    have h0' : decide (f < 0) = false := by simp; omega
    have h1' : 3000 < f := by omega
    go_enter Tryz.func106, Tryz.ntmps106
    go_wp2
    go_ret
    exact ⟨by rw [HF.out]; rfl, Below.refl _ _⟩
  have h0' : decide (f < 0) = false := by simp; omega
  have h1' : decide (3000 < f) = false := by simp; omega
  by_cases hl : hp.length ≤ 30
  case neg =>
    have HF : Hid (R = false) := by show R = false; rw [HR.out]; simp [heapOk, hl]
    have hl' : (30 : Int) < hp.length := by omega
    go_enter Tryz.func106, Tryz.ntmps106
    go_wp2
    go_ret
    exact ⟨by rw [HF.out]; rfl, Below.refl _ _⟩
  have hl' : decide ((30 : Int) < hp.length) = false := by simp; omega
  by_cases ho : (ot.length : Int) ≤ 3000 - f
  case neg =>
    have HF : Hid (R = false) := by show R = false; rw [HR.out]; simp [ho]
    have ho' : 3000 - f < (ot.length : Int) := by omega
    go_enter Tryz.func106, Tryz.ntmps106
    go_wp2
    go_ret
    exact ⟨by rw [HF.out]; rfl, Below.refl _ _⟩
  have ho' : decide (3000 - f < (ot.length : Int)) = false := by simp; omega
  have HE : Hid (R = heapOk hp) := by show R = heapOk hp; rw [HR.out]; simp [h0, h1, ho]
  go_enter Tryz.func106, Tryz.ntmps106
  go_wp2_with fail
  go_loopg [7] (hp.length) (fun g i wr => ∃ k : Nat, k ≤ hp.length ∧ i = .int .i64 k ∧ hp.length ≤ k + g ∧ Below w.heap.size w wr ∧ ∀ j (h : j < hp.length), j < k → hp[j].length ≤ 50)
  case atStart => exact ⟨0, Nat.zero_le _, rfl, by omega, Below.refl _ _, fun j _ h => by omega⟩
  case round =>
    obtain ⟨k, hk, rfl, hkg, hb, hsame⟩ := hrel
    have Hb : Hid (Below w.heap.size w wr) := hb
    have Hsame : Hid (∀ j (h : j < hp.length), j < k → hp[j].length ≤ 50) := hsame
    clear hsame hb
    by_cases hkl : k < hp.length
    · obtain ⟨b, off, x, rfl, hlt, c0, hx⟩ := (Hr.out.below Hb.out).at k hkl
      have hxl := hx.len
      obtain ⟨Ax, cx, rfl⟩ := hx.form
      clear hx
      by_cases h50 : hp[k].length ≤ 50
      · have H50 : Hid (hp[k].length ≤ 50) := h50
        have h50' : decide ((50 : Int) < hp[k].length) = false := by simp; omega
        go_wp2_with fail
        go_roundg (gk - 1)
        case measure => omega
        case rel => exact ⟨k + 1, by omega, by go_num, by omega, Hb.out, fun j h hj => if e : j = k then by subst e; exact H50.out else Hsame.out j h (by omega)⟩
      · have HF : Hid (heapOk hp = false) := heapOk_not k hkl (by omega)
        have h50' : (50 : Int) < hp[k].length := by omega
        go_wp2_with fail
        go_ret
        exact ⟨by rw [HE.out, HF.out]; rfl, Hb.out⟩
    · go_wp2_with fail
      go_ret
      exact ⟨by rw [HE.out, heapOk_yes hl fun j h => Hsame.out j h (by omega)]; rfl, Hb.out⟩

theorem specEnds (d : Bool) (v t : Int) (w : World) : Calls Tryz.prog 107 #[.bool d, .int .i64 v, .int .i64 t] w fun e w' => e = .returned (.bool (d && (t == 0 || (decide (11 ≤ t) && decide (t ≤ 15) && v == 0)))) ∧ Below w.heap.size w w' := by
  cases d with
  | false =>
    go_enter Tryz.func107, Tryz.ntmps107
    go_wp2_with fail
    all_goals
      go_ret
      exact ⟨by simp, Below.refl _ _⟩
  | true =>
    go_enter Tryz.func107, Tryz.ntmps107
    go_wp2_with fail
    all_goals
      go_ret
      exact ⟨by simp [*] <;> omega, Below.refl _ _⟩
end Go.Proofs.YtnknnncehcofnaaGreatDoor

namespace Go.Proofs.YtnknnncehcofnaaGreatDoor
open Go.RowKit

def FrTold (P : Prop) (w w' : World) (e : Ending) : Prop := ∃ b : Bool, e = .returned (.bool b) ∧ Below w.heap.size w w' ∧ (b = true ↔ P)

set_option maxRecDepth 100000 in
set_option maxHeartbeats 3200000 in
theorem implStRight (vp x y z : Value) (p : List FnM) (s : StM) (w : World) (ht : Tab w) (hr : FnRow 0 w vp p) (hs : StRow 0 w x y z s) (hok : s.ok) :
    Calls Tryz.prog 62 #[.agg #[vp], stV x y z s] w fun e w' => FrTold (StRightI p s) w w' e := by
  have Hr : Hid (FnRow 0 w vp p) := hr
  have Hs : Hid (StRow 0 w x y z s) := hs
  have Ht : Hid (Tab w) := ht
  have Hok : Hid s.ok := hok
  have hlf := hs.1.len
  obtain ⟨A, cap, rfl⟩ := hr.form
  obtain ⟨A1, a1, rfl⟩ := hs.1.form
  obtain ⟨A2, a2, rfl⟩ := hs.2.1.form
  obtain ⟨A3, a3, rfl⟩ := hs.2.2.form
  clear hr hs ht hok
  unfold stV
  obtain ⟨t0, t1, t2⟩ := boxes_new w #[.slice A p.length cap] #[.slice A1 s.frames.length a1, .slice A2 s.heap.length a2, .slice A3 s.out.length a3, .int .i64 s.fuel, .bool s.done, .int .i64 s.value, .int .i64 s.trap] 25 45
  have T0 : Hid (Box _ w.heap.size #[.slice A p.length cap]) := t0
  have T1 : Hid (StBox _ (w.heap.size + 1) (.slice A1 s.frames.length a1) (.slice A2 s.heap.length a2) (.slice A3 s.out.length a3) s) := t1
  have T2 : Hid (Below w.heap.size w _) := t2
  clear t0 t1 t2
  have hfc := fieldCode
  go_enter Tryz.func62, Tryz.ntmps62
  go_wp2_with fail
  refine (implVerify _ p _ (Ht.out.below T2.out) (Hr.out.below T2.out)).mono ?_
  rintro e w1 ⟨F, A9, C, rfl, hb1, h1, h2⟩
  have hiff : C = 0 ↔ RightP p := verTold_right h1 h2
  have Hb1 : Hid (Below w.heap.size w w1) := T2.out.trans (hb1.mono T2.out.size)
  have B0 : Hid (Box w1 w.heap.size #[.slice A p.length cap]) := T0.out.below hb1
  have B1 : Hid (StBox w1 (w.heap.size + 1) (.slice A1 s.frames.length a1) (.slice A2 s.heap.length a2) (.slice A3 s.out.length a3) s) := T1.out.below hb1
  clear hb1 T0 T1 T2 h1 h2
  by_cases hC : C = 0
  case neg =>
    have HF : Hid (¬ StRightI p s) := fun h => hC (hiff.2 h.1)
    have hC' : (C != 0) = true := by simpa using hC
    clear hiff
    go_wp2_with fail
    go_ret
    exact ⟨false, rfl, Hb1.out, by simpa using HF.out⟩
  have HR : Hid (RightP p) := hiff.1 hC
  subst hC
  clear hiff
  obtain ⟨c7, c0, c1, c2, c3, c4, c5, c6⟩ := B1.out.cells
  go_wp2_with fail
  refine (implTold (.slice A1 s.frames.length a1) (.slice A2 s.heap.length a2) (.slice A3 s.out.length a3) s _ (Hs.out.below Hb1.out) Hok.out).mono ?_
  rintro e w2 ⟨rfl, hb2⟩
  have Hb2 : Hid (Below w.heap.size w w2) := Hb1.out.trans (hb2.mono Hb1.out.size)
  have D0 : Hid (Box w2 w.heap.size #[.slice A p.length cap]) := B0.out.below hb2
  have D1 : Hid (StBox w2 (w.heap.size + 1) (.slice A1 s.frames.length a1) (.slice A2 s.heap.length a2) (.slice A3 s.out.length a3) s) := B1.out.below hb2
  clear hb2 B0 B1 c0 c1 c2 c3 c4 c5 c6 c7
  obtain ⟨bt, hbt⟩ : ∃ bt, bt = (restOk s && toldOk s) := ⟨_, rfl⟩
  rw [← hbt]
  cases bt with
  | false =>
    have HF : Hid (¬ StRightI p s) := fun h => by rw [h.2.1, h.2.2.1] at hbt; simp at hbt
    clear hbt
    go_wp2_with fail
    go_ret
    exact ⟨false, rfl, Hb2.out, by simpa using HF.out⟩
  | true =>
    have Hbt : Hid (restOk s = true ∧ toldOk s = true) := by show restOk s = true ∧ toldOk s = true; simpa using hbt.symm
    clear hbt
    obtain ⟨c7, c0, -⟩ := D1.out.cells
    go_wp2_with fail
    go_loopg [21] (s.frames.length) (fun g i wr => ∃ k : Nat, k ≤ s.frames.length ∧ i = .int .i64 k ∧ s.frames.length ≤ k + g ∧ Box wr w.heap.size #[.slice A p.length cap] ∧ StBox wr (w.heap.size + 1) (.slice A1 s.frames.length a1) (.slice A2 s.heap.length a2) (.slice A3 s.out.length a3) s ∧ Below w.heap.size w wr ∧ ∀ j, j < k → FrOkI p s.frames j)
    case atStart => exact ⟨0, Nat.zero_le _, rfl, by omega, D0.out, D1.out, Hb2.out, fun j h => by omega⟩
    case round =>
      clear c7 c0
      obtain ⟨k, hk, rfl, hkg, hB0, hB1, hb, hall⟩ := hrel
      have Hb : Hid (Below w.heap.size w wr) := hb
      have HB0 : Hid (Box wr w.heap.size #[.slice A p.length cap]) := hB0
      have HB1 : Hid (StBox wr (w.heap.size + 1) (.slice A1 s.frames.length a1) (.slice A2 s.heap.length a2) (.slice A3 s.out.length a3) s) := hB1
      have Hall : Hid (∀ j, j < k → FrOkI p s.frames j) := hall
      have q0 := hB0.at0
      have z0 := hB0.1
      obtain ⟨z1, q1, -⟩ := hB1.cells
      clear hB0 hB1 hb hall
      by_cases hkl : k < s.frames.length
      · have hfr := implFrame (.slice A p.length cap) (.slice A1 s.frames.length a1) p s.frames k wr (Ht.out.below Hb.out) (Hr.out.below Hb.out) (Hs.out.1.below Hb.out) HR.out hkl Hok.out.1
        have Hfr : Hid (Calls Tryz.prog 120 #[.agg #[.slice A p.length cap], .slice A1 s.frames.length a1, .int .i64 k] wr fun e w' => FrTold (FrOkI p s.frames k) wr w' e) := hfr
        clear hfr
        go_wp2_with fail
        refine Calls.mono (R := fun e w' => FrTold (FrOkI p s.frames k) wr w' e) Hfr.out ?_
        rintro e w3 ⟨b, rfl, hb3, hbi⟩
        have Hb3 : Hid (Below w.heap.size w w3) := Hb.out.trans (hb3.mono Hb.out.size)
        have E0 : Hid (Box w3 w.heap.size #[.slice A p.length cap]) := HB0.out.below hb3
        have E1 : Hid (StBox w3 (w.heap.size + 1) (.slice A1 s.frames.length a1) (.slice A2 s.heap.length a2) (.slice A3 s.out.length a3) s) := HB1.out.below hb3
        clear hb3 Hfr q0 q1 z0 z1
        cases b with
        | false =>
          have HF : Hid (¬ StRightI p s) := fun h => by have := hbi.2 (h.2.2.2 k hkl); simp at this
          clear hbi
          go_wp2_with fail
          go_ret
          exact ⟨false, rfl, Hb3.out, by simpa using HF.out⟩
        | true =>
          have HF : Hid (FrOkI p s.frames k) := hbi.1 rfl
          clear hbi
          go_wp2_with fail
          go_roundg (gk - 1)
          case measure => omega
          case rel => exact ⟨k + 1, by omega, by go_num, by omega, E0.out, E1.out, Hb3.out, fun j hj => if e : j = k then by subst e; exact HF.out else Hall.out j (by omega)⟩
      · go_wp2_with fail
        go_ret
        exact ⟨true, rfl, Hb.out, by simpa using ⟨HR.out, Hbt.out.1, Hbt.out.2, fun j hj => Hall.out j (by omega)⟩⟩
end Go.Proofs.YtnknnncehcofnaaGreatDoor
