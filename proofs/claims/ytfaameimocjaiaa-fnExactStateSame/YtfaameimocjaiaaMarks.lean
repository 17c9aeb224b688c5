/- laws.eqInt64S, markInt64S, heldInt64S; markProgram and what it calls. -/
import Derived.Test.YtfaameimocjaiaaIRow
import Derived.Deep.LoopGhost
import Derived.Deep.CutRange
import Derived.Deep.QuietTactic
import Derived.BigQuiet
namespace Go.Proofs.Ytfaameimocjaiaa
open Go.RowKit

set_option maxHeartbeats 800000 in
theorem eqInts {B C : Nat} (v u : Value) (zs : List Int) (w : World) (hr : IRow B w v zs) (ht : IRow C w u zs) :
    Calls Try.prog 23 #[v, u] w fun e w' => e = .returned (.bool true) ∧ Below w.heap.size w w' := by
  have Hr : Hid (IRow B w v zs) := hr
  have Ht : Hid (IRow C w u zs) := ht
  obtain ⟨A, cap, rfl⟩ := hr.form
  obtain ⟨D, dap, rfl⟩ := ht.form
  have hl := hr.len
  clear hr ht
  go_enter Try.func23, Try.ntmps23
  go_wp2
  go_loopg [5] (zs.length) (fun g i wr => ∃ k : Nat, k ≤ zs.length ∧ i = .int .i64 k ∧ zs.length ≤ k + g ∧ Below w.heap.size w wr)
  case atStart => exact ⟨0, Nat.zero_le _, rfl, by omega, Below.refl _ _⟩
  case round =>
    obtain ⟨k, hk, rfl, hkg, hb⟩ := hrel
    have Hb : Hid (Below w.heap.size w wr) := hb
    clear hb
    by_cases hkl : k < zs.length
    · obtain ⟨b, off, rfl, _, hlt, c0⟩ := (Hr.out.below Hb.out).at k hkl
      obtain ⟨b', off', rfl, _, hlt', d0⟩ := (Ht.out.below Hb.out).at k hkl
      go_upto_region 6 with fail
      go_quiet (fail)
      go_wp2_with fail
      go_roundg (gk - 1)
      case measure => omega
      case rel => exact ⟨k + 1, by omega, by go_num, by omega, below_drewN Hb.out _⟩
    · go_wp2_with fail
      go_ret
      exact ⟨rfl, Hb.out⟩

end Go.Proofs.Ytfaameimocjaiaa
