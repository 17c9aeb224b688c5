/- laws.FnExactOpName. -/
import Derived.Test.YtchlheionnfknaaDoorOpW
import Derived.Test.YtchlheionnfknaaDoorArgs
namespace Go.Proofs.YtchlheionnfknaaDoor
open Go.RowKit

theorem lawExactOpName (v0 : Value) (w : World) (i0 : IsI64 w v0) (tab : Tab w) :
    Calls Tryd.prog 4 #[v0] w fun e w' => e = .returned (.bool true) ∧ Below w.heap.size w w' := by
  obtain ⟨op, rfl, _⟩ := i0
  go_enter Tryd.func4, Tryd.ntmps4
  go_wp2_with fail
  refine (specName op _).mono ?_
  rintro e w1 ⟨rfl, hb1⟩
  have Hb1 : Hid (Below w.heap.size w w1) := hb1
  have Ht : Hid (Tab w1) := tab.below hb1
  clear hb1 tab
  go_wp2_with fail
  refine (implName op _ Ht.out).mono ?_
  rintro e w2 ⟨rfl, hb2⟩
  have Hb2 : Hid (Below w.heap.size w w2) := Hb1.out.trans (hb2.mono Hb1.out.size)
  clear hb2 Hb1
  generalize (opRow op).1 = nm
  go_wp2_with fail
  go_ret
  exact ⟨rfl, Hb2.out⟩
end Go.Proofs.YtchlheionnfknaaDoor
