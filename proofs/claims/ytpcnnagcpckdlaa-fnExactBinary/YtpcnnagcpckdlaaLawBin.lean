/- The law on ops of two numbers: both answer the same. -/
import Derived.Test.YtpcnnagcpckdlaaBinI
import Derived.Test.YtpcnnagcpckdlaaBinS
import Derived.Test.YtpcnnagcpckdlaaEqValue
namespace Go.Proofs.Ytpcnnagcpckdlaa
open Go.RowKit

set_option maxHeartbeats 400000 in
theorem lawBinary (op a b : Int) (w : World) :
    Calls Try.prog 5 #[.int .i64 op, .int .i64 a, .int .i64 b] w fun e w' => e = .returned (.bool true) ∧ Below w.heap.size w w' := by
  go_enter Try.func5, Try.ntmps5
  go_wp2_with fail
  refine (specBinary op a b _).mono ?_
  rintro e w1 ⟨rfl, hb1⟩
  go_wp2_with fail
  refine (implBinary op a b _).mono ?_
  rintro e w2 ⟨rfl, hb2⟩
  obtain ⟨c0, c1⟩ := kept2 hb2 (b := w1.heap.size) (by simp) (by simp; rfl) (by simp; rfl)
  have hz : w1.heap.size < w2.heap.size := by have := hb2.size; simp at this; omega
  have Hb1 : Hid (Below w.heap.size w w1) := hb1
  have Hb2 : Hid (Below w1.heap.size w1 w2) := ((Below.refl _ _).alloc (Nat.le_refl _) _).trans (hb2.mono (by simp))
  clear hb1 hb2
  go_wp2_with fail
  refine (eqValue_same _ _ _).mono ?_
  rintro e w3 ⟨rfl, hb3⟩
  have Hb3 : Hid (Below w2.heap.size w2 w3) := ((Below.refl _ _).alloc (Nat.le_refl _) _).trans (hb3.mono (by simp))
  clear hb3
  go_wp2_with fail
  go_ret
  exact ⟨rfl, Hb1.out.trans ((Hb2.out.trans (Hb3.out.mono (by omega))).mono Hb1.out.size)⟩
end Go.Proofs.Ytpcnnagcpckdlaa
