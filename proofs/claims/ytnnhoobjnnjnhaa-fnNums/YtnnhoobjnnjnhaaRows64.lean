/- Slices of int64: what they read, and that laws.toInt64S makes another one that reads so, and laws.eqInt64S tells that they do. -/
import Derived.Test.YtnnhoobjnnjnhaaRows
import Derived.WalkKit
import Derived.WalkLawsBesides
import Derived.WalkSpells
import Derived.OwnWalk
import Derived.Below
import Derived.Deep.OwnRows
import Derived.Laws.IdiomStrings
import Derived.Deep.QuietTactic
import Derived.BigQuiet
namespace Go.Proofs.Ytnnhoobjnnjnhaa
open Go.RowKit

theorem Try.info2 : (Try.prog.info? 2).map (fun i => (i.zero, i.size, i.bytes)) = some (some (.int .i64 0), 1, 8) := by kernel_rfl

/-- the slice v reads as the numbers zs -/
def Reads (w : World) (v : Value) (zs : List Int) : Prop :=
  (zs = [] ∧ ∃ a cap, v = .slice a 0 cap) ∨
  ∃ b off cap, v = .slice (some ⟨b, off, none⟩) zs.length cap ∧ b < w.heap.size ∧ ∀ i (h : i < zs.length), w.cell? ⟨b, off + i, none⟩ = some (.int .i64 zs[i])

theorem Reads.below {w w' : World} {v : Value} {zs : List Int} (h : Reads w v zs) (hb : Below w.heap.size w w') : Reads w' v zs := by
  rcases h with h | ⟨b, off, cap, rfl, hlt, hc⟩
  · exact .inl h
  · exact .inr ⟨b, off, cap, rfl, Nat.lt_of_lt_of_le hlt hb.size, fun i hi => by rw [hb.cell (by exact hlt)]; exact hc i hi⟩

set_option maxRecDepth 100000 in
set_option maxHeartbeats 800000 in
theorem toRow (v : Value) (zs : List Int) (w : World) (hr : Reads w v zs) (hn : zs.length ≤ 1048576) :
    Calls Try.prog 22 #[v] w fun e w' => ∃ v', e = .returned v' ∧ Reads w' v' zs ∧ Below w.heap.size w w' := by
  have hmk := run_make_row' (P := Try.prog) 28 2 (.int .i64 0) 8 Try.underlying28 Try.info2 rfl .i64 .i64 zs.length (by omega) (by omega)
  rcases hr with ⟨rfl, a, cap, rfl⟩ | ⟨b, off, cap, rfl, hlt, hc⟩
  · have hmk0 : ∀ W : World, (Instr.makeSlice 28 (.int .i64 0) (.int .i64 0)).run Try.prog W = .ok (.slice (some ⟨W.heap.size, 0, none⟩) 0 0) (W.alloc (.cells (madeCells #[.int .i64 0] 0) 2)) := hmk
    clear hmk
    go_enter Try.func22, Try.ntmps22
    go_wp2
    refine wp_loop_rounds 1 ?_
    rw [rounds_succ]
    go_wp2
    go_ret
    exact ⟨_, rfl, .inl ⟨rfl, _, _, rfl⟩, (Below.refl _ _).alloc (Nat.le_refl _) _⟩
  · go_enter Try.func22, Try.ntmps22
    go_wp2
    go_loopw [4] (fun i wr => ∃ (k : Nat) (C : Array Value), k ≤ zs.length ∧ i = .int .i64 k ∧ wr = w.alloc (.cells C 2) ∧ C.size = zs.length ∧ (∀ j (h : j < k) (h' : j < zs.length), C[j]? = some (.int .i64 zs[j])))
      (fun i _ => zs.length - (intOf i).toNat)
    case atStart => exact ⟨0, _, Nat.zero_le _, rfl, rfl, by simp [size_madeCells], fun j h => by omega⟩
    case round =>
      obtain ⟨k, C, hk, rfl, rfl, hC, hcells⟩ := hrel
      have HC : Hid (C.size = zs.length) := hC
      have Hcells : Hid (∀ j (h : j < k) (h' : j < zs.length), C[j]? = some (.int .i64 zs[j])) := hcells
      have Hc : Hid (∀ i (h : i < zs.length), w.cell? ⟨b, off + i, none⟩ = some (.int .i64 zs[i])) := hc
      clear hcells hc hmk
      by_cases hkl : k < zs.length
      · have hck := Hc.out k hkl
        have hkC : k < C.size := by omega
        clear hC
        go_wp2
        go_roundw
        case rel =>
          refine ⟨k + 1, _, by omega, by go_num, rfl, by simpa using HC.out, ?_⟩
          intro j hj hj'
          rw [Array.getElem?_setIfInBounds]
          by_cases hjk : k = j
          · subst hjk
            rw [if_pos rfl, if_pos hkC]
          · rw [if_neg hjk]
            exact Hcells.out j (by omega) hj'
        case measure => simp [intOf]; omega
      · clear hC
        go_wp2
        go_ret
        refine ⟨_, rfl, .inr ⟨w.heap.size, 0, zs.length, rfl, by simp, ?_⟩, (Below.refl _ _).alloc (Nat.le_refl _) _⟩
        intro i hi
        rw [Nat.zero_add, World.cell?_alloc_mark]
        exact Hcells.out i (by omega) hi

set_option maxRecDepth 100000 in
set_option maxHeartbeats 800000 in
theorem eqRows (v1 v2 : Value) (zs : List Int) (w : World) (h1 : Reads w v1 zs) (h2 : Reads w v2 zs) (hn : zs.length ≤ 1048576) :
    Calls Try.prog 23 #[v1, v2] w fun e w' => e = .returned (.bool true) ∧ Below w.heap.size w w' := by
  by_cases hz : zs = []
  · subst hz
    obtain ⟨a1, c1, rfl⟩ : ∃ a cap, v1 = .slice a 0 cap := by
      rcases h1 with ⟨_, h⟩ | ⟨b, off, cap, h, _⟩
      · exact h
      · exact ⟨_, _, h⟩
    obtain ⟨a2, c2, rfl⟩ : ∃ a cap, v2 = .slice a 0 cap := by
      rcases h2 with ⟨_, h⟩ | ⟨b, off, cap, h, _⟩
      · exact h
      · exact ⟨_, _, h⟩
    clear h1 h2
    go_enter Try.func23, Try.ntmps23
    go_wp2
    refine wp_loop_rounds 1 ?_
    rw [rounds_succ]
    go_wp2
    go_ret
    exact ⟨rfl, Below.refl _ _⟩
  · rcases h1 with ⟨h, _⟩ | ⟨b1, o1, c1, rfl, l1, hc1⟩
    · exact absurd h hz
    rcases h2 with ⟨h, _⟩ | ⟨b2, o2, c2, rfl, l2, hc2⟩
    · exact absurd h hz
    have H1 : Hid (∀ i (h : i < zs.length), w.cell? ⟨b1, o1 + i, none⟩ = some (.int .i64 zs[i])) := hc1
    have H2 : Hid (∀ i (h : i < zs.length), w.cell? ⟨b2, o2 + i, none⟩ = some (.int .i64 zs[i])) := hc2
    clear hc1 hc2 hz
    go_enter Try.func23, Try.ntmps23
    go_wp2
    go_loopw [5] (fun i wr => ∃ k n : Nat, k ≤ zs.length ∧ i = .int .i64 k ∧ wr = w.drewN n) (fun i _ => zs.length - (intOf i).toNat)
    case atStart => exact ⟨0, 0, Nat.zero_le _, rfl, rfl⟩
    case round =>
      obtain ⟨k, n, hk, rfl, rfl⟩ := hrel
      by_cases hkl : k < zs.length
      · have hk1 := H1.out k hkl
        have hk2 := H2.out k hkl
        go_wp2
        go_quiet (fail)
        go_wp2
        go_roundw
        case rel => exact ⟨k + 1, _, by omega, by go_num, rfl⟩
        case measure => simp [intOf]; omega
      · go_wp2
        go_ret
        exact ⟨rfl, below_drewN (Below.refl _ _) n⟩
end Go.Proofs.Ytnnhoobjnnjnhaa
