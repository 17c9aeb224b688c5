/- laws.eqProgram and what it calls: of two that read the same it tells so. laws.markProgram and what it calls: it writes into the program's own memory alone. -/
import Derived.Test.YtnknnncehcofnaaGreatDoorJ0Prg
import Derived.Deep.RegionHeld3
import Derived.Deep.DeepCutAuto
import Derived.Test.YtnknnncehcofnaaGreatDoorPrgThaw
import Derived.Test.YtnknnncehcofnaaGreatDoorJ47StKeep
import Derived.Deep.LoopGhost
namespace Go.Proofs.YtnknnncehcofnaaGreatDoor
open Go.RowKit

theorem eqIns (x y : Int) (w : World) :
    Calls Tryz.prog 220 #[.agg #[.int .i64 x, .int .i64 y], .agg #[.int .i64 x, .int .i64 y]] w fun e w' => e = .returned (.bool true) ∧ Below w.heap.size w w' := by
  go_enter Tryz.func220, Tryz.ntmps220
  go_wp2
  go_ret
  exact ⟨rfl, ((Below.refl _ _).alloc (Nat.le_refl _) _).alloc (by simp) _⟩

set_option maxRecDepth 100000 in
set_option maxHeartbeats 800000 in
theorem eqInsS {B C : Nat} (v u : Value) (c : List (Int × Int)) (w : World) (hr : InsRow B w v c) (ht : InsRow C w u c) :
    Calls Tryz.prog 191 #[v, u] w fun e w' => e = .returned (.bool true) ∧ Below w.heap.size w w' := by
  have Hr : Hid (InsRow B w v c) := hr
  have Ht : Hid (InsRow C w u c) := ht
  obtain ⟨A, cap, rfl, _, hc⟩ := hr
  obtain ⟨D, dap, rfl, _, hd⟩ := ht
  clear hc hd
  go_enter Tryz.func191, Tryz.ntmps191
  go_wp2
  go_loopw [5] (fun i wr => ∃ k : Nat, k ≤ c.length ∧ i = .int .i64 k ∧ Below w.heap.size w wr) (fun i _ => c.length - (intOf i).toNat)
  case atStart => exact ⟨0, Nat.zero_le _, rfl, Below.refl _ _⟩
  case round =>
    obtain ⟨k, hk, rfl, hb⟩ := hrel
    have Hb : Hid (Below w.heap.size w wr) := hb
    clear hb
    by_cases hkl : k < c.length
    · obtain ⟨A', cap', he, _, hc⟩ := Hr.out.below Hb.out
      simp only [Value.slice.injEq] at he
      obtain ⟨rfl, _, rfl⟩ := he
      obtain ⟨b, off, rfl, _, hlt, c0, c1⟩ := hc k hkl
      obtain ⟨A', cap', he, _, hd⟩ := Ht.out.below Hb.out
      simp only [Value.slice.injEq] at he
      obtain ⟨rfl, _, rfl⟩ := he
      obtain ⟨b', off', rfl, _, hlt', d0, d1⟩ := hd k hkl
      clear hc hd
      go_upto_region 6 with fail
      go_cut [26] from 11 to 26 (fun x wc => x = .bool false ∧ Below w.heap.size w wc)
      case first =>
        go_region_with (go_at_call 220; refine (eqIns _ _ _).mono ?_; rintro e w3 ⟨rfl, hb3⟩)
        all_goals
          go_wp2_with fail
          go_meet
          exact ⟨rfl, Hb.out.drew.trans (hb3.mono Hb.out.size)⟩
      case rest =>
        obtain ⟨rfl, hwc⟩ := hcut
        have Hwc : Hid (Below w.heap.size w wc) := hwc
        clear hwc
        go_wp2_with fail
        go_roundw
        case rel => exact ⟨k + 1, by omega, by go_num, Hwc.out⟩
        case measure => simp [intOf]; omega
    · go_wp2_with fail
      go_ret
      exact ⟨rfl, Hb.out⟩
set_option maxHeartbeats 800000 in
theorem eqFn {B C : Nat} (x y : Int) (v u : Value) (c : List (Int × Int)) (w : World) (hr : InsRow B w v c) (ht : InsRow C w u c) :
    Calls Tryz.prog 139 #[.agg #[.int .i64 x, .int .i64 y, v], .agg #[.int .i64 x, .int .i64 y, u]] w fun e w' => e = .returned (.bool true) ∧ Below w.heap.size w w' := by
  have Hr : Hid (InsRow B w v c) := hr
  have Ht : Hid (InsRow C w u c) := ht
  obtain ⟨A, cap, rfl⟩ := hr.form
  obtain ⟨D, dap, rfl⟩ := ht.form
  clear hr ht
  have b2 : ∀ o o' : Obj, Below w.heap.size w ((w.alloc o).alloc o') := fun o o' => ((Below.refl _ _).alloc (Nat.le_refl _) _).alloc (by simp) _
  go_enter Tryz.func139, Tryz.ntmps139
  go_wp2_with fail
  refine (eqInsS _ _ c _ (Hr.out.below (b2 _ _)) (Ht.out.below (b2 _ _))).mono ?_
  rintro e w1 ⟨rfl, hb1⟩
  have Hb1 : Hid (Below w.heap.size w w1) := (b2 _ _).trans (hb1.mono (by simp; omega))
  clear hb1 b2
  go_wp2_with fail
  go_ret
  exact ⟨rfl, Hb1.out⟩

set_option maxRecDepth 100000 in
set_option maxHeartbeats 800000 in
theorem eqFns {B C : Nat} (v u : Value) (c : List FnM) (w : World) (hr : FnRow B w v c) (ht : FnRow C w u c) :
    Calls Tryz.prog 68 #[v, u] w fun e w' => e = .returned (.bool true) ∧ Below w.heap.size w w' := by
  have Hr : Hid (FnRow B w v c) := hr
  have Ht : Hid (FnRow C w u c) := ht
  obtain ⟨A, cap, rfl, _, hc⟩ := hr
  obtain ⟨D, dap, rfl, _, hd⟩ := ht
  clear hc hd
  go_enter Tryz.func68, Tryz.ntmps68
  go_wp2
  go_loopw [5] (fun i wr => ∃ k : Nat, k ≤ c.length ∧ i = .int .i64 k ∧ Below w.heap.size w wr) (fun i _ => c.length - (intOf i).toNat)
  case atStart => exact ⟨0, Nat.zero_le _, rfl, Below.refl _ _⟩
  case round =>
    obtain ⟨k, hk, rfl, hb⟩ := hrel
    have Hb : Hid (Below w.heap.size w wr) := hb
    clear hb
    by_cases hkl : k < c.length
    · obtain ⟨A', cap', he, _, hc⟩ := Hr.out.below Hb.out
      simp only [Value.slice.injEq] at he
      obtain ⟨rfl, _, rfl⟩ := he
      obtain ⟨b, off, x, rfl, _, hlt, c0, c1, c2, hx⟩ := hc k hkl
      obtain ⟨A', cap', he, _, hd⟩ := Ht.out.below Hb.out
      simp only [Value.slice.injEq] at he
      obtain ⟨rfl, _, rfl⟩ := he
      obtain ⟨b', off', y, rfl, _, hlt', d0, d1, d2, hy⟩ := hd k hkl
      have Hx : Hid (InsRow B wr.drew x c[k].code) := hx.below (Below.refl _ _).drew
      have Hy : Hid (InsRow C wr.drew y c[k].code) := hy.below (Below.refl _ _).drew
      clear hc hd hx hy
      go_upto_region 6 with fail
      go_cut [26] from 11 to 26 (fun x wc => x = .bool false ∧ Below w.heap.size w wc)
      case first =>
        go_region_with (go_at_call 139; refine (eqFn _ _ _ _ _ _ (by exact Hx.out) (by exact Hy.out)).mono ?_; rintro e w3 ⟨rfl, hb3⟩)
        all_goals
          go_wp2_with fail
          go_meet
          exact ⟨rfl, Hb.out.drew.trans (hb3.mono Hb.out.size)⟩
      case rest =>
        obtain ⟨rfl, hwc⟩ := hcut
        have Hwc : Hid (Below w.heap.size w wc) := hwc
        clear hwc
        go_wp2_with fail
        go_roundw
        case rel => exact ⟨k + 1, by omega, by go_num, Hwc.out⟩
        case measure => simp [intOf]; omega
    · go_wp2_with fail
      go_ret
      exact ⟨rfl, Hb.out⟩

set_option maxHeartbeats 800000 in
theorem eqPrg {B C : Nat} (v u : Value) (p : List FnM) (w : World) (hr : FnRow B w v p) (ht : FnRow C w u p) :
    Calls Tryz.prog 20 #[.agg #[v], .agg #[u]] w fun e w' => e = .returned (.bool true) ∧ Below w.heap.size w w' := by
  have Hr : Hid (FnRow B w v p) := hr
  have Ht : Hid (FnRow C w u p) := ht
  obtain ⟨A, cap, rfl⟩ := hr.form
  obtain ⟨D, dap, rfl⟩ := ht.form
  clear hr ht
  have b2 : ∀ o o' : Obj, Below w.heap.size w ((w.alloc o).alloc o') := fun o o' => ((Below.refl _ _).alloc (Nat.le_refl _) _).alloc (by simp) _
  go_enter Tryz.func20, Tryz.ntmps20
  go_wp2_with fail
  refine (eqFns _ _ p _ (Hr.out.below (b2 _ _)) (Ht.out.below (b2 _ _))).mono ?_
  rintro e w1 ⟨rfl, hb1⟩
  have Hb1 : Hid (Below w.heap.size w w1) := (b2 _ _).trans (hb1.mono (by simp; omega))
  clear hb1 b2
  go_wp2_with fail
  go_ret
  exact ⟨rfl, Hb1.out⟩
end Go.Proofs.YtnknnncehcofnaaGreatDoor

namespace Go.Proofs.YtnknnncehcofnaaGreatDoor
open Go.RowKit

/-- nothing has changed but cells in the blocks from B on, ahead of U -/
structure Touched (B U : Nat) (w w' : World) : Prop where
  os : w'.os = w.os
  tape : w'.tape = w.tape
  output : w'.output = w.output
  size : w'.heap.size = w.heap.size
  block : ∀ b, b < B ∨ U ≤ b → w'.heap[b]? = w.heap[b]?
  there : ∀ b j, (w.cell? ⟨b, j, none⟩).isSome = true → (w'.cell? ⟨b, j, none⟩).isSome = true
  frozen : ∀ b j, w'.frozen? ⟨b, j, none⟩ = w.frozen? ⟨b, j, none⟩

theorem Touched.refl (B U : Nat) (w : World) : Touched B U w w := ⟨rfl, rfl, rfl, rfl, fun _ _ => rfl, fun _ _ h => h, fun _ _ => rfl⟩
theorem Touched.trans {B U : Nat} {a b c : World} (h : Touched B U a b) (k : Touched B U b c) : Touched B U a c :=
  ⟨k.os.trans h.os, k.tape.trans h.tape, k.output.trans h.output, k.size.trans h.size, fun i hi => (k.block i hi).trans (h.block i hi), fun i j hh => k.there i j (h.there i j hh), fun i j => (k.frozen i j).trans (h.frozen i j)⟩
theorem Touched.wider {B B' U : Nat} {a b : World} (h : Touched B U a b) (hB : B' ≤ B) : Touched B' U a b := ⟨h.os, h.tape, h.output, h.size, fun i hi => h.block i (by omega), h.there, h.frozen⟩
theorem Touched.set {B U : Nat} {w w' : World} (h : Touched B U w w') (b o : Nat) (u : Value) (h1 : B ≤ b) (h2 : b < U) : Touched B U w (w'.setCell ⟨b, o, none⟩ u) := by
  refine h.trans ⟨rfl, rfl, rfl, by simp, fun i hi => Below.heap_setCell _ _ _ _ (by show i ≠ b; omega), fun i j hh => ?_, fun i j => by simp⟩
  by_cases he : (⟨i, j, none⟩ : Addr) = ⟨b, o, none⟩
  · rw [he] at hh ⊢
    obtain ⟨v, hv⟩ := Option.isSome_iff_exists.1 hh
    rw [World.cell?_setCell_same _ _ _ hv]; rfl
  · rw [World.cell?_setCell_other _ _ _ _ (by intro e; exact he e.symm)]; exact hh

set_option maxHeartbeats 800000 in
theorem markIns {B U : Nat} (v : Value) (n k : Nat) (w : World) (hv : CodeRow B U w v n) (hf : ∀ b j, B ≤ b → b < U → w.frozen? ⟨b, j, none⟩ = false) (hU : U ≤ w.heap.size) (hn : n ≤ 1048576) (hk : k ≤ 1073741824) :
    Calls Tryz.prog 140 #[v, .int .i64 k] w fun e w' => e = .returned (.int .i64 (k + 2 * n : Nat)) ∧ Touched B U w w' := by
  obtain ⟨A, cap, rfl, hc⟩ := hv
  have Hc : Hid (∀ i, i < n → ∃ b off, A = some ⟨b, off, none⟩ ∧ B ≤ b ∧ b < U ∧ (w.cell? ⟨b, off + i * 2, none⟩).isSome = true ∧ (w.cell? ⟨b, off + i * 2 + 1, none⟩).isSome = true) := hc
  have Hf : Hid (∀ b j, B ≤ b → b < U → w.frozen? ⟨b, j, none⟩ = false) := hf
  clear hc hf
  go_enter Tryz.func140, Tryz.ntmps140
  go_wp2
  go_loopg [1, 5] n (fun g y i wr => ∃ q : Nat, q ≤ n ∧ i = .int .i64 q ∧ y = .int .i64 (k + 2 * q : Nat) ∧ n ≤ q + g ∧ Touched B U w wr)
  case atStart => exact ⟨0, Nat.zero_le _, rfl, by simp, by omega, Touched.refl _ _ _⟩
  case round =>
    obtain ⟨q, hq, rfl, rfl, hqg, hT⟩ := hrel
    have HT : Hid (Touched B U w wr) := hT
    clear hT
    by_cases hql : q < n
    · obtain ⟨b, off, rfl, h1, h2, a0, a1⟩ := Hc.out q hql
      obtain ⟨z0, hz0⟩ := Option.isSome_iff_exists.1 (HT.out.there _ _ a0)
      obtain ⟨z1, hz1⟩ := Option.isSome_iff_exists.1 (HT.out.there _ _ a1)
      have f0 : wr.frozen? ⟨b, off + q * 2, none⟩ = false := by rw [HT.out.frozen]; exact Hf.out _ _ h1 h2
      have f1 : wr.frozen? ⟨b, off + q * 2 + 1, none⟩ = false := by rw [HT.out.frozen]; exact Hf.out _ _ h1 h2
      have hbz : b < wr.heap.size := by rw [HT.out.size]; omega
      clear a0 a1
      go_wp2_with fail
      go_roundg (gk - 1)
      case measure => omega
      case rel => exact ⟨q + 1, by omega, by go_num, by go_num, by omega, (HT.out.set _ _ _ h1 h2).set _ _ _ h1 h2⟩
    · have hqn : q = n := by omega
      subst hqn
      go_wp2_with fail
      go_ret
      exact ⟨rfl, HT.out⟩

theorem set_two (w : World) (b : Nat) (u u' : Value) (i j : Nat) (h1 : j ≠ i) (h2 : j ≠ i + 1) : ((w.setCell ⟨b, i, none⟩ u).setCell ⟨b, i + 1, none⟩ u').cell? ⟨b, j, none⟩ = w.cell? ⟨b, j, none⟩ := by
  rw [cell_set_far _ _ _ _ _ (by omega), cell_set_far _ _ _ _ _ (by omega)]

set_option maxHeartbeats 1600000 in
theorem markFns {Bf U : Nat} (v : Value) (p : List FnM) (k : Nat) (w : World) (hv : MarkRow Bf U w v p) (hf : ∀ b j, Bf ≤ b → b < U → w.frozen? ⟨b, j, none⟩ = false) (hn : bulk p ≤ 1048576) (hk : k ≤ 1048576) :
    Calls Tryz.prog 69 #[v, .int .i64 k] w fun e w' => ∃ m : Nat, e = .returned (.int .i64 m) ∧ m ≤ 4194304 ∧ Touched Bf U w w' := by
  obtain ⟨cap, rfl, hBU, hU, hc⟩ := hv
  have Hc : Hid (∀ i (h : i < p.length), ∃ x, (w.cell? ⟨Bf, i * 3, none⟩).isSome = true ∧ (w.cell? ⟨Bf, i * 3 + 1, none⟩).isSome = true ∧ w.cell? ⟨Bf, i * 3 + 2, none⟩ = some x ∧ CodeRow (Bf + 1) U w x p[i].code.length) := hc
  have Hf : Hid (∀ b j, Bf ≤ b → b < U → w.frozen? ⟨b, j, none⟩ = false) := hf
  have hpl : p.length + (p.map fun f => f.code.length).sum ≤ 1048576 := hn
  clear hc hf
  go_enter Tryz.func69, Tryz.ntmps69
  go_wp2
  go_loopg [1, 5] (p.length) (fun g y i wr => ∃ q m : Nat, q ≤ p.length ∧ i = .int .i64 q ∧ y = .int .i64 m ∧ m = k + 2 * q + 2 * ((p.take q).map fun f => f.code.length).sum ∧ p.length ≤ q + g ∧ Touched Bf U w wr ∧ ∀ j, wr.cell? ⟨Bf, j * 3 + 2, none⟩ = w.cell? ⟨Bf, j * 3 + 2, none⟩)
  case atStart => exact ⟨0, k, Nat.zero_le _, rfl, rfl, by simp, by omega, Touched.refl _ _ _, fun _ => rfl⟩
  case round =>
    obtain ⟨q, m, hq, rfl, rfl, hm, hqg, hT, hkeep⟩ := hrel
    have HT : Hid (Touched Bf U w wr) := hT
    have Hkeep : Hid (∀ j, wr.cell? ⟨Bf, j * 3 + 2, none⟩ = w.cell? ⟨Bf, j * 3 + 2, none⟩) := hkeep
    have hle := sum_take_le p q
    have hmb : m ≤ 4194304 := by omega
    have Hm : Hid (m = k + 2 * q + 2 * ((p.take q).map fun f => f.code.length).sum) := hm
    clear hT hkeep hle hm
    by_cases hql : q < p.length
    · obtain ⟨x, a0, a1, a2, hx⟩ := Hc.out q hql
      obtain ⟨z0, hz0⟩ := Option.isSome_iff_exists.1 (HT.out.there _ _ a0)
      obtain ⟨z1, hz1⟩ := Option.isSome_iff_exists.1 (HT.out.there _ _ a1)
      rw [← Hkeep.out q] at a2
      have f0 : wr.frozen? ⟨Bf, q * 3, none⟩ = false := by rw [HT.out.frozen]; exact Hf.out _ _ (Nat.le_refl _) hBU
      have f1 : wr.frozen? ⟨Bf, q * 3 + 1, none⟩ = false := by rw [HT.out.frozen]; exact Hf.out _ _ (Nat.le_refl _) hBU
      have hbz : Bf < wr.heap.size := by rw [HT.out.size]; omega
      have hcode : p[q].code.length ≤ 1048576 := Nat.le_trans (code_le_bulk p q hql) hn
      have Hx : Hid (CodeRow (Bf + 1) U w x p[q].code.length) := hx
      obtain ⟨Ax, capx, hxe, _⟩ := hx
      subst hxe
      have HT2 : Hid (Touched Bf U w ((wr.setCell ⟨Bf, q * 3, none⟩ (.int .i64 m)).setCell ⟨Bf, q * 3 + 1, none⟩ (.int .i64 ((m : Int) + 1)))) := (HT.out.set _ _ _ (Nat.le_refl _) hBU).set _ _ _ (Nat.le_refl _) hBU
      clear a0 a1
      go_wp2_with fail
      rw [show ((m : Int) + 1 + 1) = ((m + 2 : Nat) : Int) by omega]
      refine (markIns (B := Bf + 1) (U := U) _ p[q].code.length (m + 2) _ (Hx.out.kept fun b j _ _ h => HT2.out.there b j h) (fun b j h1 h2 => by rw [HT2.out.frozen]; exact Hf.out b j (by omega) h2) (by rw [HT2.out.size]; exact hU) hcode (by omega)).mono ?_
      rintro e w2 ⟨rfl, hT3⟩
      have HT4 : Hid (Touched Bf U w w2) := HT2.out.trans (hT3.wider (by omega))
      have Hk4 : Hid (∀ j, w2.cell? ⟨Bf, j * 3 + 2, none⟩ = w.cell? ⟨Bf, j * 3 + 2, none⟩) := fun j => by
        rw [World.cell?_of_block (w := (wr.setCell ⟨Bf, q * 3, none⟩ (.int .i64 m)).setCell ⟨Bf, q * 3 + 1, none⟩ (.int .i64 ((m : Int) + 1))) (hT3.block Bf (.inl (by omega))), set_two _ _ _ _ _ _ (by omega) (by omega), Hkeep.out j]
      have Hm4 : Hid (m + 2 + 2 * p[q].code.length = k + 2 * (q + 1) + 2 * ((p.take (q + 1)).map fun f => f.code.length).sum) := by
        show m + 2 + 2 * p[q].code.length = _
        rw [sum_take_succ p q hql, Hm.out]
        omega
      clear hT3 HT2 hz0 hz1 f0 f1 a2
      go_wp2_with fail
      go_roundg (gk - 1)
      case measure => omega
      case rel => exact ⟨q + 1, m + 2 + 2 * p[q].code.length, by omega, by go_num, rfl, Hm4.out, by omega, HT4.out, Hk4.out⟩
    · have hqn : q = p.length := by omega
      go_wp2_with fail
      go_ret
      exact ⟨m, rfl, by omega, HT.out⟩

set_option maxHeartbeats 800000 in
theorem markPrg {Bf U : Nat} (v : Value) (p : List FnM) (k : Nat) (w : World) (hv : MarkRow Bf U w v p) (hf : ∀ b j, Bf ≤ b → b < U → w.frozen? ⟨b, j, none⟩ = false) (hn : bulk p ≤ 1048576) (hk : k ≤ 1048576) :
    Calls Tryz.prog 21 #[.agg #[v], .int .i64 k] w fun e w' => ∃ m : Nat, e = .returned (.int .i64 m) ∧ m ≤ 4194304 ∧ w.heap.size ≤ w'.heap.size ∧ (w'.os = w.os ∧ w'.tape = w.tape ∧ w'.output = w.output) ∧ ∀ b, b < w.heap.size → (b < Bf ∨ U ≤ b) → w'.heap[b]? = w.heap[b]? := by
  have Hv : Hid (MarkRow Bf U w v p) := hv
  have Hf : Hid (∀ b j, Bf ≤ b → b < U → w.frozen? ⟨b, j, none⟩ = false) := hf
  obtain ⟨cap, rfl, hBU, hU, _⟩ := hv
  clear hf
  have hb : Below w.heap.size w (w.alloc (.cells #[.slice (some ⟨Bf, 0, none⟩) p.length cap] 25)) := (Below.refl _ _).alloc (Nat.le_refl _) _
  have Hb : Hid (Below w.heap.size w (w.alloc (.cells #[.slice (some ⟨Bf, 0, none⟩) p.length cap] 25))) := hb
  clear hb
  go_enter Tryz.func21, Tryz.ntmps21
  go_wp2_with fail
  refine (markFns _ p k _ (Hv.out.below Hb.out) (fun b j h1 h2 => by rw [Hb.out.frozen (by show b < w.heap.size; omega)]; exact Hf.out b j h1 h2) hn hk).mono ?_
  rintro e w2 ⟨m, rfl, hm, hT⟩
  have HF : Hid (w.heap.size ≤ w2.heap.size ∧ (w2.os = w.os ∧ w2.tape = w.tape ∧ w2.output = w.output) ∧ ∀ b, b < w.heap.size → (b < Bf ∨ U ≤ b) → w2.heap[b]? = w.heap[b]?) :=
    ⟨by rw [hT.size]; simp, ⟨hT.os.trans Hb.out.os, hT.tape.trans Hb.out.tape, hT.output.trans Hb.out.output⟩, fun b hb h => (hT.block b h).trans (Hb.out.block b hb)⟩
  clear hT
  go_wp2_with fail
  go_ret
  exact ⟨m, rfl, hm, HF.out⟩
end Go.Proofs.YtnknnncehcofnaaGreatDoor
