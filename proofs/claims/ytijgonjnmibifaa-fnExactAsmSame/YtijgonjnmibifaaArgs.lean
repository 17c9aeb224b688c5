/- What a law's argument is told as, and that it is so of each that came in: a number, an instruction, a function, a program. -/
import Derived.Test.YtijgonjnmibifaaPrg
import Derived.OpenShut
import Derived.ProofKit
import Derived.ShutString
import Derived.Deep.SlicePairs
import Derived.Lib.SmallJoins
namespace Go.Proofs.Ytijgonjnmibifaa
open Go.RowKit Go.ChangeShapes Go.WideShapes Go.ChangeAt Go.Deep
set_option maxRecDepth 100000

/-- a number of 64 bits -/
def I64 (x : Int) : Prop := -9223372036854775808 ≤ x ∧ x ≤ 9223372036854775807
/-- all numbers of a function -/
def FnM.ok (f : FnM) : Prop := I64 f.args ∧ I64 f.locals ∧ ∀ i ∈ f.code, I64 i.1 ∧ I64 i.2

def IsI64 (_ : World) (v : Value) : Prop := ∃ x, v = .int .i64 x ∧ I64 x
def IsIns (_ : World) (v : Value) : Prop := ∃ x y, v = .agg #[.int .i64 x, .int .i64 y] ∧ I64 x ∧ I64 y
def IsFunc (w : World) (v : Value) : Prop := ∃ x y u c, v = .agg #[.int .i64 x, .int .i64 y, u] ∧ InsRow 0 w u c ∧ FnM.ok ⟨x, y, c⟩
def IsProgram (w : World) (v : Value) : Prop := ∃ u p, v = .agg #[u] ∧ FnRow 0 w u p ∧ ∀ f ∈ p, f.ok

section
variable {H : Type} {enc : TypeId × Value → H} {W : World} {r : Reach} {base : Nat} {v : Value} {d : DataW H} {p : List MemPlace}

theorem inI64 (hv : Value.okWide Try.prog W r base 2 v) (h : DataW.Trod enc Try.prog W 0 (fun _ => true) true 2 v d p) : IsI64 W v := by
  obtain ⟨x, rfl, _, _, hw⟩ := open_int Try.underlying2 hv h
  exact ⟨x, rfl, Go.bounds_i64 hw⟩

theorem int_of {fuel : Nat} {x : DataW H × List MemPlace} (h : DataW.trod enc Try.prog W 0 (fun _ => true) true fuel 2 [v] = some x) : ∃ n, v = .int .i64 n ∧ I64 n := by
  obtain ⟨n, hc, _, hw⟩ := DataW.trod_int Try.underlying2 h
  simp only [List.cons.injEq, and_true] at hc
  exact ⟨n, hc, Go.bounds_i64 hw⟩


/-- an address of which a cell is told lies at no spot -/
theorem plain_addr {a : Addr} {u : Value} (h : W.cell? (a.add 0) = some u) : ∃ b off, a = ⟨b, off, none⟩ ∧ b < W.heap.size := by
  obtain ⟨b, off, spot⟩ := a
  have hs : spot = none := by simpa [Addr.add] using World.cell?_spot h
  subst hs
  exact ⟨b, off, rfl, World.block_lt_of_cell? W _ (by simpa [Addr.add] using h)⟩

theorem plain_add (b off i : Nat) : (⟨b, off, none⟩ : Addr).add i = ⟨b, off + i, none⟩ := by simp [Addr.add]

end
end Go.Proofs.Ytijgonjnmibifaa
