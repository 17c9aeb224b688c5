/- laws.szProgram and what it calls. -/
import Derived.Test.YtfaameimocjaiaaPrg
namespace Go.Proofs.Ytfaameimocjaiaa
open Go.RowKit

/-- what is left, or -1 -/
def less (left : Int) (n : Nat) : Int := if (n : Int) ≤ left then left - n else -1

end Go.Proofs.Ytfaameimocjaiaa
