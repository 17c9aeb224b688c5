/- What a law's argument is told as, and that it is so of each that came in: a number, bytes, an instruction, a function, a program. -/
import Derived.Test.YtchlheionnfknaaDoorPrg
import Derived.OpenShut
import Derived.ProofKit
import Derived.ShutString
import Derived.Deep.SlicePairs
import Derived.Lib.SmallJoins
namespace Go.Proofs.YtchlheionnfknaaDoor
open Go.RowKit Go.ChangeShapes Go.WideShapes Go.ChangeAt

/-- a number of 64 bits -/
def I64 (x : Int) : Prop := -9223372036854775808 ≤ x ∧ x ≤ 9223372036854775807

def IsI64 (_ : World) (v : Value) : Prop := ∃ x, v = .int .i64 x ∧ I64 x
def IsIns (_ : World) (v : Value) : Prop := ∃ x y, v = .agg #[.int .i64 x, .int .i64 y] ∧ I64 x ∧ I64 y

section
variable {H : Type} {enc : TypeId × Value → H} {W : World} {r : Reach} {base : Nat} {v : Value} {d : DataW H} {p : List MemPlace}

theorem inI64 (hv : Value.okWide Tryd.prog W r base 2 v) (h : DataW.Trod enc Tryd.prog W 0 (fun _ => true) true 2 v d p) : IsI64 W v := by
  obtain ⟨x, rfl, _, _, hw⟩ := open_int Tryd.underlying2 hv h
  exact ⟨x, rfl, Go.bounds_i64 hw⟩
end
end Go.Proofs.YtchlheionnfknaaDoor
