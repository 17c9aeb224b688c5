/- slices.Insert of one number into a slice of the call's own. -/
import Derived.Test.YtijgonjnmibifaaGreatDoorInsertB
import Derived.Test.YtijgonjnmibifaaGreatDoorInsertC
namespace Go.Proofs.YtijgonjnmibifaaGreatDoor
open Go.RowKit Go.Lib

set_option maxRecDepth 100000 in
set_option maxHeartbeats 1600000 in
theorem insertOne {B : Nat} (b off cap : Nat) (zs : List Int) (i : Nat) (x : Int) (vb : Nat) (w : World) (h : OwnAt B w b off cap zs) (hi : i ≤ zs.length) (hl : zs.length ≤ 1048576) (hB : B ≤ w.heap.size)
    (hv : w.heap[vb]? = some (.cells #[.int .i64 x] 2 (0, 0))) (hne : vb ≠ b) :
    Calls Tryz.prog 126 #[.slice (some ⟨b, off, none⟩) zs.length cap, .int .i64 i, .slice (some ⟨vb, 0, none⟩) 1 1] w fun e w' =>
      ∃ b' off' cap', e = .returned (.slice (some ⟨b', off', none⟩) (zs.length + 1) cap') ∧ OwnAt B w' b' off' cap' (putAt zs i x) ∧ w.grownBy w' (some b) ∧ (b' = b ∨ w.heap.size ≤ b') := by
  by_cases hin : i = zs.length
  · exact insertEnd b off cap zs i x vb w h hi hin hl hB hv hne
  · by_cases hc : zs.length + 1 ≤ cap
    · exact insertShift b off cap zs i x vb w h hi (by omega) hc hl hB hv hne
    · exact insertGrow b off cap zs i x vb w h hi (by omega) hc hl hB hv hne
end Go.Proofs.YtijgonjnmibifaaGreatDoor
