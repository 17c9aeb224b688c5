/- Two Values are compared field by field: where they are one, the answer is yes. -/
import Derived.Test.YtpcnnagcpckdlaaRows
import Derived.WalkKit
import Derived.WalkLawsBesides
import Derived.WalkSpells
import Derived.Below
namespace Go.Proofs.Ytpcnnagcpckdlaa
open Go.RowKit

set_option maxHeartbeats 400000 in
theorem eqValue_same (n t : Int) (w : World) :
    Calls Try.prog 15 #[.agg #[.int .i64 n, .int .i64 t], .agg #[.int .i64 n, .int .i64 t]] w fun e w' => e = .returned (.bool true) ∧ Below w.heap.size w w' := by
  go_enter Try.func15, Try.ntmps15
  go_wp2
  go_ret
  exact ⟨rfl, ((Below.refl _ _).alloc (Nat.le_refl _) _).alloc (by simp) _⟩

/-- two cells of a block that was laid, behind a call that lays blocks alone -/
theorem kept2 {W w1 : World} {b : Nat} {x y : Value} (hb : Below W.heap.size W w1) (hlt : b < W.heap.size) (h0 : W.cell? ⟨b, 0, none⟩ = some x) (h1 : W.cell? ⟨b, 1, none⟩ = some y) :
    w1.cell? ⟨b, 0, none⟩ = some x ∧ w1.cell? ⟨b, 1, none⟩ = some y :=
  ⟨(hb.cell (p := ⟨b, 0, none⟩) hlt).trans h0, (hb.cell (p := ⟨b, 1, none⟩) hlt).trans h1⟩

end Go.Proofs.Ytpcnnagcpckdlaa
