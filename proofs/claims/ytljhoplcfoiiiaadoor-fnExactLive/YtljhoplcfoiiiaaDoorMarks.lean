/- laws.eqInt64S, markInt64S, heldInt64S; markProgram and what it calls. -/
import Derived.Test.YtljhoplcfoiiiaaDoorIRow
import Derived.Deep.LoopGhost
import Derived.Deep.CutRange
import Derived.Deep.QuietTactic
import Derived.BigQuiet
namespace Go.Proofs.YtljhoplcfoiiiaaDoor
open Go.RowKit

set_option maxHeartbeats 800000 in
theorem eqInts {B C : Nat} (v u : Value) (zs : List Int) (w : World) (hr : IRow B w v zs) (ht : IRow C w u zs) :
    Calls Tryd.prog 16 #[v, u] w fun e w' => e = .returned (.bool true) ∧ Below w.heap.size w w' := by
  have Hr : Hid (IRow B w v zs) := hr
  have Ht : Hid (IRow C w u zs) := ht
  obtain ⟨A, cap, rfl⟩ := hr.form
  obtain ⟨D, dap, rfl⟩ := ht.form
  have hl := hr.len
  clear hr ht
  go_enter Tryd.func16, Tryd.ntmps16
  go_wp2
  go_loopg [5] (zs.length) (fun g i wr => ∃ k : Nat, k ≤ zs.length ∧ i = .int .i64 k ∧ zs.length ≤ k + g ∧ Below w.heap.size w wr)
  case atStart => exact ⟨0, Nat.zero_le _, rfl, by omega, Below.refl _ _⟩
  case round =>
    obtain ⟨k, hk, rfl, hkg, hb⟩ := hrel
    have Hb : Hid (Below w.heap.size w wr) := hb
    clear hb
    by_cases hkl : k < zs.length
    · obtain ⟨b, off, rfl, _, hlt, c0⟩ := (Hr.out.below Hb.out).at k hkl
      obtain ⟨b', off', rfl, _, hlt', d0⟩ := (Ht.out.below Hb.out).at k hkl
      go_upto_region 6 with fail
      go_quiet (fail)
      go_wp2_with fail
      go_roundg (gk - 1)
      case measure => omega
      case rel => exact ⟨k + 1, by omega, by go_num, by omega, below_drewN Hb.out _⟩
    · go_wp2_with fail
      go_ret
      exact ⟨rfl, Hb.out⟩

/-- k, k + 1, .. -/
def marks (n : Nat) (k : Nat) : List Int := (List.range n).map fun (j : Nat) => ((k + j : Nat) : Int)
theorem marks_length (n k : Nat) : (marks n k).length = n := by simp [marks]
theorem marks_getD (n k j : Nat) (h : j < n) : (marks n k).getD j 0 = ((k + j : Nat) : Int) := by simp [marks, List.getD, h]

set_option maxHeartbeats 800000 in
theorem markInts (b n cap k : Nat) (zs : List Int) (w : World) (hn : zs.length = n) (hl : n ≤ 1048576) (hk : k ≤ 1048576) (hv : VRow w b (ints zs)) :
    Calls Tryd.prog 18 #[.slice (some ⟨b, 0, none⟩) n cap, .int .i64 k] w fun e w' => e = .returned (.int .i64 (k + n : Nat)) ∧ VRow w' b (ints (marks n k)) ∧ w.grownBy w' (some b) := by
  have Hv : Hid (VRow w b (ints zs)) := hv
  clear hv
  go_enter Tryd.func18, Tryd.ntmps18
  go_wp2
  go_loopg [1, 5] n (fun g y i wr => ∃ q : Nat, q ≤ n ∧ i = .int .i64 q ∧ y = .int .i64 (k + q : Nat) ∧ n ≤ q + g ∧ w.grownBy wr (some b) ∧ ∃ ys : List Int, ys.length = n ∧ VRow wr b (ints ys) ∧ ∀ j, j < q → ys.getD j 0 = ((k + j : Nat) : Int))
  case atStart => exact ⟨0, Nat.zero_le _, rfl, by simp, by omega, World.grownBy.refl _ _, zs, hn, Hv.out, fun j h => by omega⟩
  case round =>
    obtain ⟨q, hq, rfl, rfl, hqg, hg, ys, hyl, hY, hs⟩ := hrel
    have HG : Hid (w.grownBy wr (some b)) := hg
    have HY : Hid (VRow wr b (ints ys)) := hY
    have Hs : Hid (∀ j, j < q → ys.getD j 0 = ((k + j : Nat) : Int)) := hs
    clear hg hY hs
    by_cases hql : q < n
    · obtain ⟨c0, f0⟩ := HY.out.int q (by omega)
      have bz := HY.out.1
      go_wp2_with fail
      go_roundg (gk - 1)
      case measure => omega
      case rel =>
        refine ⟨q + 1, by omega, by go_num, by go_num, by omega, ?_, ys.set q ((k + q : Nat) : Int), by simpa using hyl, ?_, fun j hj => ?_⟩
        · have h1 : wr.grownBy (wr.setCell ⟨b, q, none⟩ (.int .i64 ((k + q : Nat) : Int))) (some b) := ⟨rfl, rfl, rfl, by simp, fun j _ hj => Below.heap_setCell wr _ _ j (fun e => hj (by rw [e]))⟩
          exact ⟨h1.os.trans HG.out.os, h1.tape.trans HG.out.tape, h1.output.trans HG.out.output, Nat.le_trans HG.out.size h1.size, fun i hi hne => (h1.block i (Nat.lt_of_lt_of_le hi HG.out.size) hne).trans (HG.out.block i hi hne)⟩
        · have := HY.out.set_at q (.int .i64 ((k + q : Nat) : Int)) (by rw [ints_length]; omega)
          rwa [ints_set] at this
        · simp only [List.getD, List.getElem?_set]
          by_cases he : q = j
          · subst he; simp [show q < ys.length by omega]
          · simp only [he, if_false]
            exact Hs.out j (by omega)
    · have hys : ys = marks n k := by
        apply List.ext_getElem (by rw [hyl, marks_length])
        intro j h1 h2
        have := Hs.out j (by omega)
        have h3 := marks_getD n k j (by omega)
        simp only [List.getD, List.getElem?_eq_getElem h1, Option.getD_some] at this
        simp only [List.getD, List.getElem?_eq_getElem h2, Option.getD_some] at h3
        rw [this, h3]
      subst hys
      have hqn : q = n := by omega
      subst hqn
      go_wp2_with fail
      go_ret
      exact ⟨rfl, HY.out, HG.out⟩

set_option maxHeartbeats 800000 in
theorem heldInts {B : Nat} (v : Value) (n k : Nat) (w : World) (hl : n ≤ 1048576) (hk : k ≤ 1048576) (hv : IRow B w v (marks n k)) :
    Calls Tryd.prog 19 #[v, .int .i64 k] w fun e w' => e = .returned (.int .i64 (k + n : Nat)) ∧ w' = w := by
  have Hv : Hid (IRow B w v (marks n k)) := hv
  obtain ⟨A, cap, rfl⟩ := hv.form
  clear hv
  have Hm := marks_length n k
  rw [Hm] at Hv ⊢
  go_enter Tryd.func19, Tryd.ntmps19
  go_wp2
  go_loopg [1, 5] n (fun g y i wr => ∃ q : Nat, q ≤ n ∧ i = .int .i64 q ∧ y = .int .i64 (k + q : Nat) ∧ n ≤ q + g ∧ wr = w)
  case atStart => exact ⟨0, Nat.zero_le _, rfl, by simp, by omega, rfl⟩
  case round =>
    obtain ⟨q, hq, rfl, rfl, hqg, hw⟩ := hrel
    subst hw
    by_cases hql : q < n
    · obtain ⟨b, off, rfl, _, hlt, c0⟩ := Hv.out.at q (by omega)
      have hget : (marks n k)[q]'(by rw [Hm]; exact hql) = ((k + q : Nat) : Int) := by simp [marks]
      rw [hget] at c0
      clear hget
      go_wp2_with fail
      go_roundg (gk - 1)
      case measure => omega
      case rel => exact ⟨q + 1, by omega, by go_num, by go_num, by omega, rfl⟩
    · have hqn : q = n := by omega
      subst hqn
      go_wp2_with fail
      go_ret
      exact ⟨rfl, rfl⟩
end Go.Proofs.YtljhoplcfoiiiaaDoor
