/- laws.FnOpNames. -/
import Derived.Test.YtchlheionnfknaaDoorPutsW
import Derived.Test.YtchlheionnfknaaDoorSrcNew
import Derived.Test.YtchlheionnfknaaDoorArgsB
namespace Go.Proofs.YtchlheionnfknaaDoor
open Go.RowKit

theorem drawOp (v : Value) (zs : List Int) (w : World) (hr : Row8 w.heap.size w v zs) (hz : zs.length ≤ 1048576) :
    Calls Tryd.prog 8 #[v] w fun e w' => ∃ op : Int, e = .returned (.int .i64 op) ∧ -2 ≤ op ∧ op < 42 ∧ Below w.heap.size w w' := by
  have Hr : Hid (Row8 w.heap.size w v zs) := hr
  obtain ⟨ad, cap, rfl⟩ := hr.len
  clear hr
  go_enter Tryd.func8, Tryd.ntmps8
  go_wp2_with fail
  refine (srcNew _ zs _ Hr.out hz).mono ?_
  rintro e w1 ⟨rfl, hs1, hb1⟩
  go_wp2_with fail
  refine (srcN w.heap.size w.heap.size 44 _ hs1 (by omega)).mono ?_
  rintro e w2 ⟨x, rfl, hx0, hx1, hs2, hg2⟩
  have Hb2 : Hid (Below w.heap.size w w2) := hb1.trans ((Below.refl _ _).grown hg2 hb1.size (fun j hj => by simp at hj; omega))
  have hx2 : x < 44 := by omega
  clear hx1 hg2 hb1 hs1 hs2
  go_wp2_with fail
  go_ret
  exact ⟨x - 2, rfl, by omega, by omega, Hb2.out⟩

/-- no two ops have one name -/
theorem names_apart (op k : Int) (hn : (opRow op).1 ≠ []) (h : k ≠ op) : (opRow k).1 ≠ (opRow op).1 := by
  have key : ∀ i j : Fin 39, (opN j.1).1 ≠ [] → i ≠ j → (opN i.1).1 ≠ (opN j.1).1 := by decide
  unfold opRow at hn ⊢
  split at hn
  · rename_i ho
    rw [if_pos ho]
    split
    · rename_i hk
      exact key ⟨k.toNat, by omega⟩ ⟨op.toNat, by omega⟩ hn (by intro e; simp only [Fin.mk.injEq] at e; omega)
    · exact fun e => hn e.symm
  · exact absurd rfl hn

theorem name_none (op : Int) (h : (opRow op).1 = []) : op < 1 ∨ op > 38 ∨ (op > 5 ∧ op < 10) := by
  have key : ∀ i : Fin 39, (opN i.1).1 = [] → i.1 < 1 ∨ i.1 > 38 ∨ (i.1 > 5 ∧ i.1 < 10) := by decide
  unfold opRow at h
  split at h
  · have := key ⟨op.toNat, by omega⟩ h
    simp only at this
    omega
  · omega

set_option maxHeartbeats 1600000 in
theorem lawOpNames (v0 : Value) (w : World) (i0 : IsBytes w v0) (tab : Tab w) :
    Calls Tryd.prog 3 #[v0] w fun e w' => e = .returned (.bool true) ∧ Below w.heap.size w w' := by
  obtain ⟨zs, hr, hz⟩ := i0
  have Hr : Hid (Row8 w.heap.size w v0 zs) := hr
  have Ht : Hid (Tab w) := tab
  obtain ⟨ad, cap, rfl⟩ := hr.len
  clear hr tab
  by_cases hlen : zs.length ≤ 1048576
  · go_enter Tryd.func3, Tryd.ntmps3
    go_wp2_with fail
    refine (drawOp _ zs _ Hr.out hlen).mono ?_
    rintro e w1 ⟨op, rfl, ho0, ho1, hb1⟩
    have Hb1 : Hid (Below w.heap.size w w1) := hb1
    clear hb1 Hr
    go_wp2_with fail
    refine (implName op _ (Ht.out.below Hb1.out)).mono ?_
    rintro e w2 ⟨rfl, hb2⟩
    have Hb2 : Hid (Below w.heap.size w w2) := Hb1.out.trans (hb2.mono Hb1.out.size)
    clear hb2 Hb1
    go_wp2_with fail
    refine (specName op _).mono ?_
    rintro e w3 ⟨rfl, hb3⟩
    have Hb3 : Hid (Below w.heap.size w w3) := Hb2.out.trans (hb3.mono Hb2.out.size)
    clear hb3 Hb2
    by_cases hnm : (opRow op).1 = []
    · have hno := name_none op hnm
      rw [hnm]
      go_wp2_with fail
      all_goals
        go_ret
        exact ⟨by simp; try omega, Hb3.out⟩
    · have Hap : Hid (∀ k : Int, k ≠ op → (opRow k).1 ≠ (opRow op).1) := fun k => names_apart op k hnm
      have e0 : (opRow op).1.isEmpty = false := by simpa using hnm
      clear hnm
      go_wp2_with fail
      go_loopw [5] (fun i wr => ∃ k : Int, -3 ≤ k ∧ k ≤ 50 ∧ i = .int .i64 k ∧ Below w.heap.size w wr) (fun i _ => (50 - intOf i).toNat)
      case atStart => exact ⟨-3, by omega, by omega, rfl, Hb3.out⟩
      case round =>
        obtain ⟨k, hk0, hk1, rfl, hb⟩ := hrel
        have Hb : Hid (Below w.heap.size w wr) := hb
        clear hb
        by_cases hk : k < 50
        · by_cases hko : k = op
          · subst hko
            go_wp2_with fail
            go_roundw
            case rel => exact ⟨k + 1, by omega, by omega, rfl, Hb.out⟩
            case measure => simp [intOf]; omega
          · have hne : (k != op) = true := by simpa using hko
            have hap : ((opRow k).1 == (opRow op).1) = false := beq_eq_false_iff_ne.2 (Hap.out k hko)
            go_wp2_with fail
            refine (implName k _ (Ht.out.below Hb.out)).mono ?_
            rintro e w4 ⟨rfl, hb4⟩
            have Hb4 : Hid (Below w.heap.size w w4) := Hb.out.trans (hb4.mono Hb.out.size)
            clear hb4
            go_wp2_with fail
            go_roundw
            case rel => exact ⟨k + 1, by omega, by omega, rfl, Hb4.out⟩
            case measure => simp [intOf]; omega
        · go_wp2_with fail
          go_ret
          exact ⟨rfl, Hb.out⟩
  · go_enter Tryd.func3, Tryd.ntmps3
    go_wp2_with fail
    go_ret
    exact ⟨rfl, Below.refl _ _⟩
end Go.Proofs.YtchlheionnfknaaDoor
