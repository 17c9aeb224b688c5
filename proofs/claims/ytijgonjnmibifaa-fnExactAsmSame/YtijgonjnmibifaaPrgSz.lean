/- laws.szProgram and what it calls. -/
import Derived.Test.YtijgonjnmibifaaPrg
namespace Go.Proofs.Ytijgonjnmibifaa
open Go.RowKit

/-- what is left, or -1 -/
def less (left : Int) (n : Nat) : Int := if (n : Int) ≤ left then left - n else -1

end Go.Proofs.Ytijgonjnmibifaa
