/- What a state tells beside its frames: impl.fuelRight, trapRight, heapRight, toldRight; spec.l06Rest, l06Ends. -/
import Derived.Test.YtfaameimocjaiaaDoorRightP6
import Derived.Test.YtfaameimocjaiaaDoorArgsS
import Derived.Test.YtfaameimocjaiaaDoorStEqS
namespace Go.Proofs.YtfaameimocjaiaaDoor
open Go.RowKit

theorem implFuel (f : Int) (w : World) : Calls Tryd.prog 36 #[.int .i64 f] w fun e w' => e = .returned (.bool (decide (0 ≤ f) && decide (f ≤ 3000))) ∧ w' = w := by
  by_cases h0 : 0 ≤ f
  · go_enter Tryd.func36, Tryd.ntmps36
    go_wp2
    go_ret
    exact ⟨by simp [h0], rfl⟩
  · have h0' : decide (0 ≤ f) = false := by simpa using h0
    go_enter Tryd.func36, Tryd.ntmps36
    go_wp2
    go_ret
    exact ⟨by simp, rfl⟩

theorem implTrap (f : Int) (w : World) : Calls Tryd.prog 72 #[.int .i64 f] w fun e w' => e = .returned (.bool (decide (11 ≤ f) && decide (f ≤ 15))) ∧ w' = w := by
  by_cases h0 : 11 ≤ f
  · go_enter Tryd.func72, Tryd.ntmps72
    go_wp2
    go_ret
    exact ⟨by simp [h0], rfl⟩
  · have h0' : decide (11 ≤ f) = false := by simpa using h0
    go_enter Tryd.func72, Tryd.ntmps72
    go_wp2
    go_ret
    exact ⟨by simp, rfl⟩

theorem heapOk_not {hp : List (List Int)} (k : Nat) (h : k < hp.length) (hb : 50 < hp[k].length) : heapOk hp = false := by
  unfold heapOk
  rw [Bool.and_eq_false_iff]
  right
  rw [List.all_eq_false]
  exact ⟨hp[k], List.getElem_mem h, by simpa using hb⟩

theorem heapOk_yes {hp : List (List Int)} (hl : hp.length ≤ 30) (h : ∀ j (h : j < hp.length), hp[j].length ≤ 50) : heapOk hp = true := by
  unfold heapOk
  rw [Bool.and_eq_true]
  refine ⟨by simpa using hl, ?_⟩
  rw [List.all_eq_true]
  intro a ha
  obtain ⟨k, hk, rfl⟩ := List.getElem_of_mem ha
  simpa using h k hk

set_option maxHeartbeats 800000 in
theorem implHeapR {B : Nat} (v : Value) (hp : List (List Int)) (w : World) (hr : ArrRow B w v hp) :
    Calls Tryd.prog 71 #[v] w fun e w' => e = .returned (.bool (heapOk hp)) ∧ w' = w := by
  have Hr : Hid (ArrRow B w v hp) := hr
  have hlen := hr.len
  obtain ⟨A, cap, rfl⟩ := hr.form
  clear hr
  by_cases hl : hp.length ≤ 30
  · go_enter Tryd.func71, Tryd.ntmps71
    go_wp2
    go_loopg [10] (hp.length) (fun g i wr => ∃ k : Nat, k ≤ hp.length ∧ i = .int .i64 k ∧ hp.length ≤ k + g ∧ wr = w ∧ ∀ j (h : j < hp.length), j < k → hp[j].length ≤ 50)
    case atStart => exact ⟨0, Nat.zero_le _, rfl, by omega, rfl, fun j _ h => by omega⟩
    case round =>
      obtain ⟨k, hk, rfl, hkg, hw, hsame⟩ := hrel
      subst hw
      have Hsame : Hid (∀ j (h : j < hp.length), j < k → hp[j].length ≤ 50) := hsame
      clear hsame
      by_cases hkl : k < hp.length
      · obtain ⟨b, off, x, rfl, hlt, c0, hx⟩ := Hr.out.at k hkl
        have hxl := hx.len
        obtain ⟨Ax, cx, rfl⟩ := hx.form
        clear hx
        by_cases h50 : hp[k].length ≤ 50
        · go_wp2_with fail
          go_roundg (gk - 1)
          case measure => omega
          case rel => exact ⟨k + 1, by omega, by go_num, by omega, rfl, fun j h hj => if e : j = k then by subst e; exact h50 else Hsame.out j h (by omega)⟩
        · have HF : Hid (heapOk hp = false) := heapOk_not k hkl (by omega)
          have h50' : (50 : Int) < hp[k].length := by omega
          go_wp2_with fail
          go_ret
          exact ⟨by rw [HF.out]; rfl, rfl⟩
      · go_wp2_with fail
        go_ret
        exact ⟨by rw [heapOk_yes hl fun j h => Hsame.out j h (by omega)]; rfl, rfl⟩
  · have HF : Hid (heapOk hp = false) := by show heapOk hp = false; unfold heapOk; simp; omega
    have hl' : (30 : Int) < hp.length := by omega
    go_enter Tryd.func71, Tryd.ntmps71
    go_wp2
    go_ret
    exact ⟨by rw [HF.out]; rfl, rfl⟩

set_option maxRecDepth 100000 in
set_option maxHeartbeats 1600000 in
theorem implTold {B : Nat} (x y z : Value) (s : StM) (w : World) (hr : StRow B w x y z s) (hok : s.ok) :
    Calls Tryd.prog 54 #[stV x y z s, .int .i64 s.frames.length] w fun e w' => e = .returned (.bool (restOk s && toldOk s)) ∧ Below w.heap.size w w' := by
  have Hr : Hid (StRow B w x y z s) := hr
  have hlf := hr.1.len
  have hlo := hr.2.2.len
  obtain ⟨A1, a1, rfl⟩ := hr.1.form
  obtain ⟨A2, a2, rfl⟩ := hr.2.1.form
  obtain ⟨A3, a3, rfl⟩ := hr.2.2.form
  obtain ⟨-, -, -, hfu, hva, htr⟩ := hok
  unfold I64 at hfu hva htr
  clear hr
  unfold stV
  have X0 : Hid (StBox (w.alloc (.cells #[.slice A1 s.frames.length a1, .slice A2 s.heap.length a2, .slice A3 s.out.length a3, .int .i64 s.fuel, .bool s.done, .int .i64 s.value, .int .i64 s.trap] 37)) w.heap.size (.slice A1 s.frames.length a1) (.slice A2 s.heap.length a2) (.slice A3 s.out.length a3) s) := stBox_new w _ _ _ s 37
  have X2 : Hid (Below w.heap.size w (w.alloc (.cells #[.slice A1 s.frames.length a1, .slice A2 s.heap.length a2, .slice A3 s.out.length a3, .int .i64 s.fuel, .bool s.done, .int .i64 s.value, .int .i64 s.trap] 37))) := (Below.refl _ _).alloc (Nat.le_refl _) _
  go_enter Tryd.func54, Tryd.ntmps54
  go_wp2_with fail
  refine (implFuel s.fuel _).mono ?_
  rintro e w1 ⟨rfl, hw1⟩
  subst w1
  obtain ⟨bf, hbf⟩ : ∃ bf, bf = (decide (0 ≤ s.fuel) && decide (s.fuel ≤ 3000)) := ⟨_, rfl⟩
  have Hbf : Hid (bf = (decide (0 ≤ s.fuel) && decide (s.fuel ≤ 3000))) := hbf
  rw [← hbf]
  cases bf with
  | false =>
    have HF : Hid ((restOk s && toldOk s) = false) := by show (restOk s && toldOk s) = false; unfold restOk; rw [← hbf]; rfl
    clear hbf
    go_wp2_with fail
    go_ret
    exact ⟨by rw [HF.out]; rfl, X2.out⟩
  | true =>
    have hfu2 : 0 ≤ s.fuel ∧ s.fuel ≤ 3000 := by simpa using hbf.symm
    clear hbf
    go_wp2_with fail
    refine (implHeapR _ s.heap _ (Hr.out.2.1.below X2.out)).mono ?_
    rintro e w1 ⟨rfl, hw1⟩
    subst w1
    obtain ⟨bh, hbh⟩ : ∃ bh, bh = heapOk s.heap := ⟨_, rfl⟩
    have Hbh : Hid (bh = heapOk s.heap) := hbh
    rw [← hbh]
    cases bh with
    | false =>
      have HF : Hid ((restOk s && toldOk s) = false) := by show (restOk s && toldOk s) = false; unfold restOk; rw [← hbh]; simp
      clear hbh
      go_wp2_with fail
      go_ret
      exact ⟨by rw [HF.out]; rfl, X2.out⟩
    | true =>
      clear hbh
      by_cases ho : (s.out.length : Int) ≤ 3000 - s.fuel
      case neg =>
        have HF : Hid ((restOk s && toldOk s) = false) := by show (restOk s && toldOk s) = false; unfold restOk; simp; omega
        have ho' : 3000 - s.fuel < (s.out.length : Int) := by omega
        go_wp2_with fail
        go_ret
        exact ⟨by rw [HF.out]; rfl, X2.out⟩
      have HR : Hid ((restOk s && toldOk s) = toldOk s) := by show (restOk s && toldOk s) = toldOk s; unfold restOk; rw [← Hbh.out, ← Hbf.out]; simp [ho]
      have ho' : decide (3000 - s.fuel < (s.out.length : Int)) = false := by simp; omega
      have Hal : Hid (∀ o : Obj, Below w.heap.size w (w.alloc o)) := fun o => (Below.refl _ _).alloc (Nat.le_refl _) _
      clear X0 X2 Hr
      cases hdn : s.done with
      | false =>
        have HT : Hid (toldOk s = (s.value == 0 && s.trap == 0 && decide (1 ≤ s.frames.length) && decide (s.frames.length ≤ 10))) := by show toldOk s = _; unfold toldOk; rw [hdn]; simp
        clear hdn
        go_wp2_with fail
        all_goals
          go_ret
          refine ⟨?_, Hal.out _⟩
          rw [HR.out, HT.out]
          simp [*] <;> first | omega | (rw [show decide (1 ≤ s.frames.length) = true by simp; omega, Bool.true_and]; congr 1; simp only [eq_iff_iff]; omega)
      | true =>
        by_cases hf0 : s.frames.length = 0
        · have HT : Hid (toldOk s = (s.trap == 0 || (decide (11 ≤ s.trap) && decide (s.trap ≤ 15) && s.value == 0))) := by show toldOk s = _; unfold toldOk; rw [hdn]; simp [List.length_eq_zero_iff.1 hf0]
          rw [hf0]
          clear hdn
          by_cases ht0 : s.trap = 0
          · go_wp2_with fail
            all_goals
              go_ret
              refine ⟨?_, Hal.out _⟩
              rw [HR.out, HT.out]
              simp [ht0]
          · have ht0' : (s.trap == 0) = false := by simpa using ht0
            go_wp2_with fail
            refine (implTrap s.trap _).mono ?_
            rintro e w1 ⟨rfl, hw1⟩
            subst w1
            obtain ⟨bt, hbt⟩ : ∃ bt, bt = (decide (11 ≤ s.trap) && decide (s.trap ≤ 15)) := ⟨_, rfl⟩
            rw [← hbt]
            have HT2 : Hid (toldOk s = (bt && s.value == 0)) := by show toldOk s = _; rw [HT.out, ← hbt, ht0']; simp
            clear hbt
            cases bt with
            | false =>
              go_wp2_with fail
              go_ret
              exact ⟨by rw [HR.out, HT2.out]; rfl, Hal.out _⟩
            | true =>
              go_wp2_with fail
              all_goals
                go_ret
                refine ⟨?_, Hal.out _⟩
                rw [HR.out, HT2.out]
                simp [*]
        · have HT : Hid (toldOk s = false) := by
            show toldOk s = false
            unfold toldOk
            rw [hdn]
            cases hfr : s.frames with
            | nil => rw [hfr] at hf0; simp at hf0
            | cons a l => simp
          have hf0' : ((s.frames.length : Int) == 0) = false := by simpa using hf0
          clear hdn
          go_wp2_with fail
          go_ret
          exact ⟨by rw [HR.out, HT.out]; rfl, Hal.out _⟩

set_option maxHeartbeats 800000 in
theorem specRest {B C : Nat} (f : Int) (v u : Value) (hp : List (List Int)) (ot : List Int) (w : World) (hr : ArrRow B w v hp) (ht : IRow C w u ot) (hfu : I64 f) :
    Calls Tryd.prog 49 #[.int .i64 f, v, u] w fun e w' => e = .returned (.bool ((decide (0 ≤ f) && decide (f ≤ 3000)) && heapOk hp && decide ((ot.length : Int) ≤ 3000 - f))) ∧ Below w.heap.size w w' := by
  have Hr : Hid (ArrRow B w v hp) := hr
  have hlen := hr.len
  have hlo := ht.len
  obtain ⟨A, cap, rfl⟩ := hr.form
  obtain ⟨D, dap, rfl⟩ := ht.form
  unfold I64 at hfu
  clear hr ht
  obtain ⟨R, HR⟩ : ∃ R, Hid (R = ((decide (0 ≤ f) && decide (f ≤ 3000)) && heapOk hp && decide ((ot.length : Int) ≤ 3000 - f))) := ⟨_, rfl⟩
  rw [← HR.out]
  by_cases h0 : 0 ≤ f
  case neg =>
    have HF : Hid (R = false) := by show R = false; rw [HR.out]; simp [h0]
    have h0' : f < 0 := by omega
    go_enter Tryd.func49, Tryd.ntmps49
    go_wp2
    go_ret
    exact ⟨by rw [HF.out]; rfl, Below.refl _ _⟩
  by_cases h1 : f ≤ 3000
  case neg =>
    have HF : Hid (R = false) := by show R = false; rw [HR.out]; simp [h1]
    have h0' : decide (f < 0) = false := by simp; omega
    have h1' : 3000 < f := by omega
    go_enter Tryd.func49, Tryd.ntmps49
    go_wp2
    go_ret
    exact ⟨by rw [HF.out]; rfl, Below.refl _ _⟩
  have h0' : decide (f < 0) = false := by simp; omega
  have h1' : decide (3000 < f) = false := by simp; omega
  by_cases hl : hp.length ≤ 30
  case neg =>
    have HF : Hid (R = false) := by show R = false; rw [HR.out]; simp [heapOk, hl]
    have hl' : (30 : Int) < hp.length := by omega
    go_enter Tryd.func49, Tryd.ntmps49
    go_wp2
    go_ret
    exact ⟨by rw [HF.out]; rfl, Below.refl _ _⟩
  have hl' : decide ((30 : Int) < hp.length) = false := by simp; omega
  by_cases ho : (ot.length : Int) ≤ 3000 - f
  case neg =>
    have HF : Hid (R = false) := by show R = false; rw [HR.out]; simp [ho]
    have ho' : 3000 - f < (ot.length : Int) := by omega
    go_enter Tryd.func49, Tryd.ntmps49
    go_wp2
    go_ret
    exact ⟨by rw [HF.out]; rfl, Below.refl _ _⟩
  have ho' : decide (3000 - f < (ot.length : Int)) = false := by simp; omega
  have HE : Hid (R = heapOk hp) := by show R = heapOk hp; rw [HR.out]; simp [h0, h1, ho]
  go_enter Tryd.func49, Tryd.ntmps49
  go_wp2_with fail
  go_loopg [7] (hp.length) (fun g i wr => ∃ k : Nat, k ≤ hp.length ∧ i = .int .i64 k ∧ hp.length ≤ k + g ∧ Below w.heap.size w wr ∧ ∀ j (h : j < hp.length), j < k → hp[j].length ≤ 50)
  case atStart => exact ⟨0, Nat.zero_le _, rfl, by omega, Below.refl _ _, fun j _ h => by omega⟩
  case round =>
    obtain ⟨k, hk, rfl, hkg, hb, hsame⟩ := hrel
    have Hb : Hid (Below w.heap.size w wr) := hb
    have Hsame : Hid (∀ j (h : j < hp.length), j < k → hp[j].length ≤ 50) := hsame
    clear hsame hb
    by_cases hkl : k < hp.length
    · obtain ⟨b, off, x, rfl, hlt, c0, hx⟩ := (Hr.out.below Hb.out).at k hkl
      have hxl := hx.len
      obtain ⟨Ax, cx, rfl⟩ := hx.form
      clear hx
      by_cases h50 : hp[k].length ≤ 50
      · have H50 : Hid (hp[k].length ≤ 50) := h50
        have h50' : decide ((50 : Int) < hp[k].length) = false := by simp; omega
        go_wp2_with fail
        go_roundg (gk - 1)
        case measure => omega
        case rel => exact ⟨k + 1, by omega, by go_num, by omega, Hb.out, fun j h hj => if e : j = k then by subst e; exact H50.out else Hsame.out j h (by omega)⟩
      · have HF : Hid (heapOk hp = false) := heapOk_not k hkl (by omega)
        have h50' : (50 : Int) < hp[k].length := by omega
        go_wp2_with fail
        go_ret
        exact ⟨by rw [HE.out, HF.out]; rfl, Hb.out⟩
    · go_wp2_with fail
      go_ret
      exact ⟨by rw [HE.out, heapOk_yes hl fun j h => Hsame.out j h (by omega)]; rfl, Hb.out⟩

theorem specEnds (d : Bool) (v t : Int) (w : World) : Calls Tryd.prog 50 #[.bool d, .int .i64 v, .int .i64 t] w fun e w' => e = .returned (.bool (d && (t == 0 || (decide (11 ≤ t) && decide (t ≤ 15) && v == 0)))) ∧ Below w.heap.size w w' := by
  cases d with
  | false =>
    go_enter Tryd.func50, Tryd.ntmps50
    go_wp2_with fail
    all_goals
      go_ret
      exact ⟨by simp, Below.refl _ _⟩
  | true =>
    go_enter Tryd.func50, Tryd.ntmps50
    go_wp2_with fail
    all_goals
      go_ret
      exact ⟨by simp [*] <;> omega, Below.refl _ _⟩
end Go.Proofs.YtfaameimocjaiaaDoor
