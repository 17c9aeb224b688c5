/- impl.locRight, valRight, numberRight, movRight (with operandOf and its kinds); spec.l10Loc, l10Val, l10Some. -/
import Derived.Test.YtijgonjnmibifaaGreatDoorAsmP
namespace Go.Proofs.YtijgonjnmibifaaGreatDoor
open Go.RowKit

theorem implLoc (n : Int) (w : World) : Calls Tryz.prog 129 #[.int .i64 n] w fun e w' => e = .returned (.bool (locOk n)) ∧ w' = w := by
  go_enter Tryz.func129, Tryz.ntmps129
  go_wp2_with fail
  refine (inList n 22 _ (by omega)).mono ?_
  rintro e w2 ⟨rfl, h⟩
  subst w2
  go_wp2_with fail
  go_ret
  exact ⟨rfl, rfl⟩

theorem methNo (n : Int) (W : World) : (method 360 223 (.int .i64 n) "loop.example/g00219/impl.right").run Tryz.prog W = .ok (187, .int .i64 n) W := by kernel_rfl
theorem methLoc (n : Int) (W : World) : (method 360 197 (.int .i64 n) "loop.example/g00219/impl.right").run Tryz.prog W = .ok (174, .int .i64 n) W := by kernel_rfl
theorem methConst (n : Int) (W : World) : (method 360 198 (.int .i64 n) "loop.example/g00219/impl.right").run Tryz.prog W = .ok (175, .int .i64 n) W := by kernel_rfl
theorem methStray (n : Int) (W : World) : (method 360 224 (.int .i64 n) "loop.example/g00219/impl.right").run Tryz.prog W = .ok (188, .int .i64 n) W := by kernel_rfl

theorem as_no_loc (n : Int) (W : World) : (Instr.typeAssert (.iface 223 (.int .i64 n)) 195 197 true).run Tryz.prog W = .ok (.tuple #[.int .i64 0, .bool false]) W := by kernel_rfl
theorem as_no_const (n : Int) (W : World) : (Instr.typeAssert (.iface 223 (.int .i64 n)) 195 198 true).run Tryz.prog W = .ok (.tuple #[.int .i64 0, .bool false]) W := by kernel_rfl
theorem as_loc_loc (n : Int) (W : World) : (Instr.typeAssert (.iface 197 (.int .i64 n)) 195 197 true).run Tryz.prog W = .ok (.tuple #[.int .i64 n, .bool true]) W := by kernel_rfl
theorem as_loc_const (n : Int) (W : World) : (Instr.typeAssert (.iface 197 (.int .i64 n)) 195 198 true).run Tryz.prog W = .ok (.tuple #[.int .i64 0, .bool false]) W := by kernel_rfl
theorem as_const_loc (n : Int) (W : World) : (Instr.typeAssert (.iface 198 (.int .i64 n)) 195 197 true).run Tryz.prog W = .ok (.tuple #[.int .i64 0, .bool false]) W := by kernel_rfl
theorem as_const_const (n : Int) (W : World) : (Instr.typeAssert (.iface 198 (.int .i64 n)) 195 198 true).run Tryz.prog W = .ok (.tuple #[.int .i64 n, .bool true]) W := by kernel_rfl
theorem as_stray_loc (n : Int) (W : World) : (Instr.typeAssert (.iface 224 (.int .i64 n)) 195 197 true).run Tryz.prog W = .ok (.tuple #[.int .i64 0, .bool false]) W := by kernel_rfl
theorem as_stray_const (n : Int) (W : World) : (Instr.typeAssert (.iface 224 (.int .i64 n)) 195 198 true).run Tryz.prog W = .ok (.tuple #[.int .i64 0, .bool false]) W := by kernel_rfl

set_option maxRecDepth 100000 in
theorem opLoc (n : Int) (w : World) : Calls Tryz.prog 130 #[.agg #[.int .i64 1, .int .i64 n]] w fun e w' => e = .returned (.iface 197 (.int .i64 n)) ∧ Below w.heap.size w w' := by
  have Hb : Hid (∀ o, Below w.heap.size w (w.alloc o)) := fun o => (Below.refl _ _).alloc (Nat.le_refl _) _
  go_enter Tryz.func130, Tryz.ntmps130
  go_wp2
  go_ret
  exact ⟨rfl, Hb.out _⟩

theorem rightLoc (n : Int) (w : World) : Calls Tryz.prog 174 #[.int .i64 n] w fun e w' => e = .returned (.bool (locOk n)) ∧ w' = w := by
  go_enter Tryz.func174, Tryz.ntmps174
  go_wp2_with fail
  refine (implLoc n _).mono ?_
  rintro e w2 ⟨rfl, h⟩
  subst w2
  go_wp2_with fail
  go_ret
  exact ⟨rfl, rfl⟩

set_option maxRecDepth 100000 in
set_option maxHeartbeats 800000 in
theorem implVal (k n : Int) (w : World) : Calls Tryz.prog 105 #[.agg #[.int .i64 k, .int .i64 n]] w fun e w' => e = .returned (.bool (valOk (k, n))) ∧ Below w.heap.size w w' := by
  have Hb : Hid (∀ o o', Below w.heap.size w ((w.alloc o).alloc o')) := fun o o' => ((Below.refl _ _).alloc (Nat.le_refl _) _).alloc (by simp) _
  by_cases h0 : k = 0
  · subst h0
    have hm := methNo n
    go_enter Tryz.func105, Tryz.ntmps105
    go_wp2
    go_ret
    exact ⟨rfl, Hb.out _ _⟩
  by_cases h1 : k = 1
  · subst h1
    have hm := methLoc n
    have HT : Hid (valOk (1, n) = locOk n) := by show valOk (1, n) = _; simp [valOk]
    go_enter Tryz.func105, Tryz.ntmps105
    have X2 : Hid (∀ o, Below w.heap.size w (w.alloc o)) := fun o => (Below.refl _ _).alloc (Nat.le_refl _) _
    go_wp2_with fail
    refine (opLoc n _).mono ?_
    rintro e w1 ⟨rfl, hb1⟩
    have Hb1 : Hid (Below w.heap.size w w1) := (X2.out _).trans (hb1.mono (X2.out _).size)
    clear hb1
    go_wp2_with fail
    refine (rightLoc n _).mono ?_
    rintro e w2 ⟨rfl, h⟩
    subst w2
    go_wp2_with fail
    go_ret
    exact ⟨by rw [HT.out]; rfl, Hb1.out⟩
  by_cases h2 : k = 2
  · subst h2
    have hm := methConst n
    go_enter Tryz.func105, Tryz.ntmps105
    go_wp2
    go_ret
    exact ⟨rfl, Hb.out _ _⟩
  · have hm := methStray n
    have HT : Hid (valOk (k, n) = false) := by show valOk (k, n) = false; simp [valOk, h0, h1, h2]
    have e0 : (k == 0) = false := by simpa using h0
    have e1 : (k == 1) = false := by simpa using h1
    have e2 : (k == 2) = false := by simpa using h2
    go_enter Tryz.func105, Tryz.ntmps105
    go_wp2
    go_ret
    exact ⟨by rw [HT.out]; rfl, Hb.out _ _⟩

set_option maxRecDepth 100000 in
set_option maxHeartbeats 800000 in
theorem implNum (k n : Int) (w : World) : Calls Tryz.prog 103 #[.agg #[.int .i64 k, .int .i64 n]] w fun e w' => e = .returned (.bool (numOk (k, n))) ∧ Below w.heap.size w w' := by
  have Hb : Hid (∀ o o', Below w.heap.size w ((w.alloc o).alloc o')) := fun o o' => ((Below.refl _ _).alloc (Nat.le_refl _) _).alloc (by simp) _
  by_cases h0 : k = 0
  · subst h0
    have hm := methNo n
    have ha := as_no_loc n
    have hc := as_no_const n
    go_enter Tryz.func103, Tryz.ntmps103
    go_wp2
    go_ret
    exact ⟨rfl, Hb.out _ _⟩
  by_cases h1 : k = 1
  · subst h1
    have hm := methLoc n
    have ha := as_loc_loc n
    have hc := as_loc_const n
    have HT : Hid (numOk (1, n) = locOk n) := by show numOk (1, n) = _; simp [numOk]
    go_enter Tryz.func103, Tryz.ntmps103
    have X2 : Hid (∀ o, Below w.heap.size w (w.alloc o)) := fun o => (Below.refl _ _).alloc (Nat.le_refl _) _
    go_wp2_with fail
    refine (opLoc n _).mono ?_
    rintro e w1 ⟨rfl, hb1⟩
    have Hb1 : Hid (Below w.heap.size w w1) := (X2.out _).trans (hb1.mono (X2.out _).size)
    clear hb1
    go_wp2_with fail
    refine (rightLoc n _).mono ?_
    rintro e w2 ⟨rfl, h⟩
    subst w2
    go_wp2_with fail
    go_ret
    exact ⟨by rw [HT.out]; rfl, Hb1.out⟩
  by_cases h2 : k = 2
  · subst h2
    have hm := methConst n
    have ha := as_const_loc n
    have hc := as_const_const n
    go_enter Tryz.func103, Tryz.ntmps103
    go_wp2
    go_ret
    exact ⟨rfl, Hb.out _ _⟩
  · have hm := methStray n
    have ha := as_stray_loc n
    have hc := as_stray_const n
    have HT : Hid (numOk (k, n) = false) := by show numOk (k, n) = false; simp [numOk, h1, h2]
    have e0 : (k == 0) = false := by simpa using h0
    have e1 : (k == 1) = false := by simpa using h1
    have e2 : (k == 2) = false := by simpa using h2
    go_enter Tryz.func103, Tryz.ntmps103
    go_wp2
    go_ret
    exact ⟨by rw [HT.out]; rfl, Hb.out _ _⟩

set_option maxRecDepth 100000 in
set_option maxHeartbeats 800000 in
theorem implMov (m : MvM) (w : World) : Calls Tryz.prog 101 #[.agg #[.int .i64 m.to, .int .i64 m.kind, .int .i64 m.n]] w fun e w' => e = .returned (.bool (movOk m)) ∧ Below w.heap.size w w' := by
  have X0 : Hid (Box (w.alloc (.cells #[.int .i64 m.to, .int .i64 m.kind, .int .i64 m.n] 64)) w.heap.size _) := box_new w #[.int .i64 m.to, .int .i64 m.kind, .int .i64 m.n] 64
  have X2 : Hid (Below w.heap.size w (w.alloc (.cells #[.int .i64 m.to, .int .i64 m.kind, .int .i64 m.n] 64))) := (Below.refl _ _).alloc (Nat.le_refl _) _
  go_enter Tryz.func101, Tryz.ntmps101
  go_wp2_with fail
  refine (implLoc m.to _).mono ?_
  rintro e w2 ⟨rfl, h⟩
  subst w2
  by_cases hl : locOk m.to = true
  · have HT : Hid (movOk m = numOk (m.kind, m.n)) := by show movOk m = _; simp [movOk, hl]
    rw [hl]
    go_wp2_with fail
    refine (implNum m.kind m.n _).mono ?_
    rintro e w2 ⟨rfl, hb⟩
    have Hb : Hid (Below w.heap.size w w2) := X2.out.trans (hb.mono X2.out.size)
    clear hb
    go_wp2_with fail
    go_ret
    exact ⟨by rw [HT.out]; rfl, Hb.out⟩
  · rw [Bool.not_eq_true] at hl
    have HT : Hid (movOk m = false) := by show movOk m = _; simp [movOk, hl]
    rw [hl]
    go_wp2_with fail
    go_ret
    exact ⟨by rw [HT.out]; rfl, X2.out⟩

set_option maxRecDepth 100000 in
set_option maxHeartbeats 800000 in
theorem implMovs {B : Nat} (v : Value) (c : List MvM) (w : World) (hr : MvRow B w v c) :
    Calls Tryz.prog 100 #[v, .func (.func 101) #[] #[]] w fun e w' => e = .returned (.bool (c.all movOk)) ∧ Below w.heap.size w w' := by
  have Hr : Hid (MvRow B w v c) := hr
  have hcl := hr.len
  obtain ⟨A, cap, rfl⟩ := hr.form
  clear hr
  go_enter Tryz.func100, Tryz.ntmps100
  go_wp2_with fail
  go_loopg [9] (c.length) (fun g i wr => ∃ k : Nat, k ≤ c.length ∧ i = .int .i64 k ∧ c.length ≤ k + g ∧ Below w.heap.size w wr ∧ ∀ j (h : j < c.length), j < k → movOk c[j] = true)
  case atStart => exact ⟨0, Nat.zero_le _, rfl, by omega, Below.refl _ _, fun j _ h => by omega⟩
  case round =>
    obtain ⟨k, hk, rfl, hkg, hb, hall⟩ := hrel
    have Hb : Hid (Below w.heap.size w wr) := hb
    have Hall : Hid (∀ j (h : j < c.length), j < k → movOk c[j] = true) := hall
    clear hb hall
    by_cases hkl : k < c.length
    · obtain ⟨b, off, rfl, hlt, c0, c1, c2⟩ := (Hr.out.below Hb.out).at k hkl
      have Hal : Hid (∀ o, Below wr.heap.size wr (wr.alloc o)) := fun o => (Below.refl _ _).alloc (Nat.le_refl _) _
      go_wp2_with fail
      refine (implMov c[k] _).mono ?_
      rintro e w3 ⟨rfl, hb3⟩
      have Hwc : Hid (Below w.heap.size w w3) := Hb.out.trans (((Hal.out _).trans (hb3.mono (Hal.out _).size)).mono Hb.out.size)
      clear hb3 c0 c1 c2
      by_cases hcd : movOk c[k] = true
      · have Hcd : Hid (movOk c[k] = true) := hcd
        rw [hcd]
        clear hcd
        go_wp2_with fail
        go_roundg (gk - 1)
        case measure => omega
        case rel => exact ⟨k + 1, by omega, by go_num, by omega, Hwc.out, fun j h hj => if e : j = k then by subst e; exact Hcd.out else Hall.out j h (by omega)⟩
      · have HT : Hid (c.all movOk = false) := by
          show c.all movOk = false
          rw [Bool.eq_false_iff]
          exact fun h => hcd (List.all_eq_true.1 h _ (List.getElem_mem hkl))
        rw [Bool.not_eq_true] at hcd
        rw [hcd]
        go_wp2_with fail
        go_ret
        exact ⟨by rw [HT.out]; rfl, Hwc.out⟩
    · have HT : Hid (c.all movOk = true) := by
        show c.all movOk = true
        rw [List.all_eq_true]
        intro x hx
        obtain ⟨j, hj, rfl⟩ := List.mem_iff_getElem.1 hx
        exact Hall.out j hj (by omega)
      go_wp2_with fail
      go_ret
      exact ⟨by rw [HT.out]; rfl, Hb.out⟩

set_option maxRecDepth 100000 in
set_option maxHeartbeats 800000 in
theorem implNums {B : Nat} (v : Value) (c : List (Int × Int)) (w : World) (hr : InsRow B w v c) :
    Calls Tryz.prog 102 #[v, .func (.func 103) #[] #[]] w fun e w' => e = .returned (.bool (c.all numOk)) ∧ Below w.heap.size w w' := by
  have Hr : Hid (InsRow B w v c) := hr
  have hcl := hr.len
  obtain ⟨A, cap, rfl⟩ := hr.form
  clear hr
  go_enter Tryz.func102, Tryz.ntmps102
  go_wp2_with fail
  go_loopg [9] (c.length) (fun g i wr => ∃ k : Nat, k ≤ c.length ∧ i = .int .i64 k ∧ c.length ≤ k + g ∧ Below w.heap.size w wr ∧ ∀ j (h : j < c.length), j < k → numOk c[j] = true)
  case atStart => exact ⟨0, Nat.zero_le _, rfl, by omega, Below.refl _ _, fun j _ h => by omega⟩
  case round =>
    obtain ⟨k, hk, rfl, hkg, hb, hall⟩ := hrel
    have Hb : Hid (Below w.heap.size w wr) := hb
    have Hall : Hid (∀ j (h : j < c.length), j < k → numOk c[j] = true) := hall
    clear hb hall
    by_cases hkl : k < c.length
    · obtain ⟨b, off, rfl, hlt, c0, c1⟩ := (Hr.out.below Hb.out).at k hkl
      have Hal : Hid (∀ o, Below wr.heap.size wr (wr.alloc o)) := fun o => (Below.refl _ _).alloc (Nat.le_refl _) _
      go_wp2_with fail
      refine (implNum c[k].1 c[k].2 _).mono ?_
      rintro e w3 ⟨rfl, hb3⟩
      have Hwc : Hid (Below w.heap.size w w3) := Hb.out.trans (((Hal.out _).trans (hb3.mono (Hal.out _).size)).mono Hb.out.size)
      clear hb3 c0 c1
      by_cases hcd : numOk c[k] = true
      · have Hcd : Hid (numOk c[k] = true) := hcd
        rw [hcd]
        clear hcd
        go_wp2_with fail
        go_roundg (gk - 1)
        case measure => omega
        case rel => exact ⟨k + 1, by omega, by go_num, by omega, Hwc.out, fun j h hj => if e : j = k then by subst e; exact Hcd.out else Hall.out j h (by omega)⟩
      · have HT : Hid (c.all numOk = false) := by
          show c.all numOk = false
          rw [Bool.eq_false_iff]
          exact fun h => hcd (List.all_eq_true.1 h _ (List.getElem_mem hkl))
        rw [Bool.not_eq_true] at hcd
        rw [hcd]
        go_wp2_with fail
        go_ret
        exact ⟨by rw [HT.out]; rfl, Hwc.out⟩
    · have HT : Hid (c.all numOk = true) := by
        show c.all numOk = true
        rw [List.all_eq_true]
        intro x hx
        obtain ⟨j, hj, rfl⟩ := List.mem_iff_getElem.1 hx
        exact Hall.out j hj (by omega)
      go_wp2_with fail
      go_ret
      exact ⟨by rw [HT.out]; rfl, Hb.out⟩

set_option maxRecDepth 100000 in
set_option maxHeartbeats 800000 in
theorem implVals {B : Nat} (v : Value) (c : List (Int × Int)) (w : World) (hr : InsRow B w v c) :
    Calls Tryz.prog 102 #[v, .func (.func 105) #[] #[]] w fun e w' => e = .returned (.bool (c.all valOk)) ∧ Below w.heap.size w w' := by
  have Hr : Hid (InsRow B w v c) := hr
  have hcl := hr.len
  obtain ⟨A, cap, rfl⟩ := hr.form
  clear hr
  go_enter Tryz.func102, Tryz.ntmps102
  go_wp2_with fail
  go_loopg [9] (c.length) (fun g i wr => ∃ k : Nat, k ≤ c.length ∧ i = .int .i64 k ∧ c.length ≤ k + g ∧ Below w.heap.size w wr ∧ ∀ j (h : j < c.length), j < k → valOk c[j] = true)
  case atStart => exact ⟨0, Nat.zero_le _, rfl, by omega, Below.refl _ _, fun j _ h => by omega⟩
  case round =>
    obtain ⟨k, hk, rfl, hkg, hb, hall⟩ := hrel
    have Hb : Hid (Below w.heap.size w wr) := hb
    have Hall : Hid (∀ j (h : j < c.length), j < k → valOk c[j] = true) := hall
    clear hb hall
    by_cases hkl : k < c.length
    · obtain ⟨b, off, rfl, hlt, c0, c1⟩ := (Hr.out.below Hb.out).at k hkl
      have Hal : Hid (∀ o, Below wr.heap.size wr (wr.alloc o)) := fun o => (Below.refl _ _).alloc (Nat.le_refl _) _
      go_wp2_with fail
      refine (implVal c[k].1 c[k].2 _).mono ?_
      rintro e w3 ⟨rfl, hb3⟩
      have Hwc : Hid (Below w.heap.size w w3) := Hb.out.trans (((Hal.out _).trans (hb3.mono (Hal.out _).size)).mono Hb.out.size)
      clear hb3 c0 c1
      by_cases hcd : valOk c[k] = true
      · have Hcd : Hid (valOk c[k] = true) := hcd
        rw [hcd]
        clear hcd
        go_wp2_with fail
        go_roundg (gk - 1)
        case measure => omega
        case rel => exact ⟨k + 1, by omega, by go_num, by omega, Hwc.out, fun j h hj => if e : j = k then by subst e; exact Hcd.out else Hall.out j h (by omega)⟩
      · have HT : Hid (c.all valOk = false) := by
          show c.all valOk = false
          rw [Bool.eq_false_iff]
          exact fun h => hcd (List.all_eq_true.1 h _ (List.getElem_mem hkl))
        rw [Bool.not_eq_true] at hcd
        rw [hcd]
        go_wp2_with fail
        go_ret
        exact ⟨by rw [HT.out]; rfl, Hwc.out⟩
    · have HT : Hid (c.all valOk = true) := by
        show c.all valOk = true
        rw [List.all_eq_true]
        intro x hx
        obtain ⟨j, hj, rfl⟩ := List.mem_iff_getElem.1 hx
        exact Hall.out j hj (by omega)
      go_wp2_with fail
      go_ret
      exact ⟨by rw [HT.out]; rfl, Hb.out⟩

end Go.Proofs.YtijgonjnmibifaaGreatDoor
