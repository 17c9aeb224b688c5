/-
  NARROWER THAN 'FOR EVERY INPUT', by the rows' own cells (each row's printed sentence says how): FnOpNames: laid · FnExactOpName: laid · FnExactTakes: laid · FnExactPuts: laid · FnExactInsRight: laid.
  DERIVED. THE GIVEN ROWS OF THIS SEAT. 5 by the template 'for every input the law returns true; each argument reads behind the call as it read before'; 0 by the template 'total and deterministic' (their statements: YtchlheionnfknaaDoorTotals.lean).
  GIVEN WITH THE SEED: the statements are not yours to turn. If you find one false, say at which input.
  Laid BY PROGRAM, IN A SANDBOX (cutbox-rows.mjs): the forced cells as the released guide's own fill.sh prints them over the translation 5a4cefb38546deda… (all of the seat's roots in one cut). By AI agents, Wed Nov 11 2026. No macro, syntax, notation, axiom, sorry.
-/
import Derived.Test.YtchlheionnfknaaDoorChecked
import GoSem.Claim
import GoSem.ClaimJoined
import GoSem.ClaimMapViews
import Derived.JoinedTies
import Derived.KernelRfl
namespace Go.Proofs.YtchlheionnfknaaDoor
/- THE CELL 'sum', in the pinned program and in every row, IS THE sha256 OF THE DUMP (.gsa) THAT YtchlheionnfknaaDoorProg.lean LOADS. Nothing in Lean hashes anything: it is a label: what it is worth is what the hold of that sum in a sandbox is worth. -/
noncomputable def Tryd.pinned : Pinned := { name := "ytchlheionnfknaadoor", sum := "5a4cefb38546dedac27d5e16032adacab6a6784282d73d80edd4624e98e858c8", checked := Tryd.checked }
namespace Rows
def none {H : Type} : Left H := { results := [], args := [] }

/- WHAT THE LISTED PACKAGE-LEVEL VARIABLES READ AS WHEN THE CALL BEGINS. Each datum BY PROGRAM (the guide's laid-datum.mjs) off the statement by which the dump's own 'gosem.cut.vars' lays the variable. In a bare row this is a premise. The card (YtchlheionnfknaaDoorCards.lean) ties it to the program's text. -/
def laid_loop_example_g00219_impl_opRows {H : Type} : DataW H := .agg [.agg [.lit (.string []), .lit (.int .i64 0), .lit (.int .i64 0), .lit (.int .i64 0)], .agg [.lit (.string [112, 117, 115, 104]), .lit (.int .i64 1), .lit (.int .i64 0), .lit (.int .i64 1)], .agg [.lit (.string [108, 111, 97, 100]), .lit (.int .i64 2), .lit (.int .i64 0), .lit (.int .i64 1)], .agg [.lit (.string [115, 116, 111, 114, 101]), .lit (.int .i64 2), .lit (.int .i64 1), .lit (.int .i64 0)], .agg [.lit (.string [100, 117, 112]), .lit (.int .i64 0), .lit (.int .i64 1), .lit (.int .i64 2)], .agg [.lit (.string [112, 111, 112]), .lit (.int .i64 0), .lit (.int .i64 1), .lit (.int .i64 0)], .agg [.lit (.string []), .lit (.int .i64 0), .lit (.int .i64 0), .lit (.int .i64 0)], .agg [.lit (.string []), .lit (.int .i64 0), .lit (.int .i64 0), .lit (.int .i64 0)], .agg [.lit (.string []), .lit (.int .i64 0), .lit (.int .i64 0), .lit (.int .i64 0)], .agg [.lit (.string []), .lit (.int .i64 0), .lit (.int .i64 0), .lit (.int .i64 0)], .agg [.lit (.string [97, 100, 100]), .lit (.int .i64 0), .lit (.int .i64 2), .lit (.int .i64 1)], .agg [.lit (.string [115, 117, 98]), .lit (.int .i64 0), .lit (.int .i64 2), .lit (.int .i64 1)], .agg [.lit (.string [109, 117, 108]), .lit (.int .i64 0), .lit (.int .i64 2), .lit (.int .i64 1)], .agg [.lit (.string [100, 105, 118]), .lit (.int .i64 0), .lit (.int .i64 2), .lit (.int .i64 1)], .agg [.lit (.string [114, 101, 109]), .lit (.int .i64 0), .lit (.int .i64 2), .lit (.int .i64 1)], .agg [.lit (.string [97, 110, 100]), .lit (.int .i64 0), .lit (.int .i64 2), .lit (.int .i64 1)], .agg [.lit (.string [111, 114]), .lit (.int .i64 0), .lit (.int .i64 2), .lit (.int .i64 1)], .agg [.lit (.string [120, 111, 114]), .lit (.int .i64 0), .lit (.int .i64 2), .lit (.int .i64 1)], .agg [.lit (.string [115, 104, 108]), .lit (.int .i64 0), .lit (.int .i64 2), .lit (.int .i64 1)], .agg [.lit (.string [115, 104, 114]), .lit (.int .i64 0), .lit (.int .i64 2), .lit (.int .i64 1)], .agg [.lit (.string [117, 115, 104, 114]), .lit (.int .i64 0), .lit (.int .i64 2), .lit (.int .i64 1)], .agg [.lit (.string [108, 101, 115, 115]), .lit (.int .i64 0), .lit (.int .i64 2), .lit (.int .i64 1)], .agg [.lit (.string [97, 116, 109, 111, 115, 116]), .lit (.int .i64 0), .lit (.int .i64 2), .lit (.int .i64 1)], .agg [.lit (.string [115, 97, 109, 101]), .lit (.int .i64 0), .lit (.int .i64 2), .lit (.int .i64 1)], .agg [.lit (.string [110, 101, 103]), .lit (.int .i64 0), .lit (.int .i64 1), .lit (.int .i64 1)], .agg [.lit (.string [110, 111, 116]), .lit (.int .i64 0), .lit (.int .i64 1), .lit (.int .i64 1)], .agg [.lit (.string [98, 121, 116, 101]), .lit (.int .i64 0), .lit (.int .i64 1), .lit (.int .i64 1)], .agg [.lit (.string [115, 104, 111, 114, 116]), .lit (.int .i64 0), .lit (.int .i64 1), .lit (.int .i64 1)], .agg [.lit (.string [105, 110, 116]), .lit (.int .i64 0), .lit (.int .i64 1), .lit (.int .i64 1)], .agg [.lit (.string [119, 111, 114, 100]), .lit (.int .i64 0), .lit (.int .i64 1), .lit (.int .i64 1)], .agg [.lit (.string [106, 117, 109, 112]), .lit (.int .i64 3), .lit (.int .i64 0), .lit (.int .i64 0)], .agg [.lit (.string [106, 122]), .lit (.int .i64 3), .lit (.int .i64 1), .lit (.int .i64 0)], .agg [.lit (.string [99, 97, 108, 108]), .lit (.int .i64 4), .lit (.int .i64 0), .lit (.int .i64 1)], .agg [.lit (.string [114, 101, 116]), .lit (.int .i64 0), .lit (.int .i64 1), .lit (.int .i64 0)], .agg [.lit (.string [110, 101, 119]), .lit (.int .i64 0), .lit (.int .i64 1), .lit (.int .i64 1)], .agg [.lit (.string [103, 101, 116]), .lit (.int .i64 0), .lit (.int .i64 2), .lit (.int .i64 1)], .agg [.lit (.string [115, 101, 116]), .lit (.int .i64 0), .lit (.int .i64 3), .lit (.int .i64 0)], .agg [.lit (.string [108, 101, 110]), .lit (.int .i64 0), .lit (.int .i64 1), .lit (.int .i64 1)], .agg [.lit (.string [111, 117, 116]), .lit (.int .i64 0), .lit (.int .i64 1), .lit (.int .i64 0)]]

/-- 'laws.FnOpNames': WHATEVER THE INPUT: true; the input reads as it did. -/
def fnOpNamesSpec : ChangeSpec := { name := "fnOpNames", vars := ["loop.example/g00219/impl.opRows"], fn := fun _ => fun
  | [d, g1] => { results := [.lit (.bool true)], args := [d], vars := [g1] }
  | _ => none }
def fnOpNamesRow : OpenClaim := { program := "ytchlheionnfknaadoor", sum := "5a4cefb38546dedac27d5e16032adacab6a6784282d73d80edd4624e98e858c8", func := "loop.example/g00219/laws.FnOpNames", spec := "fnOpNames", named := ["loop.example/g00219/impl.opRows"], apart := false, laid := [("loop.example/g00219/impl.opRows", laid_loop_example_g00219_impl_opRows)] }
def FnOpNamesSaid : Prop := fnOpNamesRow.holds Tryd.pinned (OpenSpec.ofChange fnOpNamesSpec)

/-- ITS FALSE NEIGHBOUR: 'it returns false'. Refute it at one input. -/
def fnOpNamesWrong : ChangeSpec := { name := "fnOpNames", vars := ["loop.example/g00219/impl.opRows"], fn := fun _ => fun
  | [d, g1] => { results := [.lit (.bool false)], args := [d], vars := [g1] }
  | _ => none }
def FnOpNamesWrongFalsely : Prop := fnOpNamesRow.holds Tryd.pinned (OpenSpec.ofChange fnOpNamesWrong)

/-- 'laws.FnExactOpName': WHATEVER THE INPUT: true; the input reads as it did. -/
def fnExactOpNameSpec : ChangeSpec := { name := "fnExactOpName", vars := ["loop.example/g00219/impl.opRows"], fn := fun _ => fun
  | [d, g1] => { results := [.lit (.bool true)], args := [d], vars := [g1] }
  | _ => none }
def fnExactOpNameRow : OpenClaim := { program := "ytchlheionnfknaadoor", sum := "5a4cefb38546dedac27d5e16032adacab6a6784282d73d80edd4624e98e858c8", func := "loop.example/g00219/laws.FnExactOpName", spec := "fnExactOpName", named := ["loop.example/g00219/impl.opRows"], apart := false, laid := [("loop.example/g00219/impl.opRows", laid_loop_example_g00219_impl_opRows)] }
def FnExactOpNameSaid : Prop := fnExactOpNameRow.holds Tryd.pinned (OpenSpec.ofChange fnExactOpNameSpec)

/-- ITS FALSE NEIGHBOUR: 'it returns false'. Refute it at one input. -/
def fnExactOpNameWrong : ChangeSpec := { name := "fnExactOpName", vars := ["loop.example/g00219/impl.opRows"], fn := fun _ => fun
  | [d, g1] => { results := [.lit (.bool false)], args := [d], vars := [g1] }
  | _ => none }
def FnExactOpNameWrongFalsely : Prop := fnExactOpNameRow.holds Tryd.pinned (OpenSpec.ofChange fnExactOpNameWrong)

/-- 'laws.FnExactTakes': WHATEVER THE INPUT: true; the input reads as it did. -/
def fnExactTakesSpec : ChangeSpec := { name := "fnExactTakes", vars := ["loop.example/g00219/impl.opRows"], fn := fun _ => fun
  | [d1, d2, g1] => { results := [.lit (.bool true)], args := [d1, d2], vars := [g1] }
  | _ => none }
def fnExactTakesRow : OpenClaim := { program := "ytchlheionnfknaadoor", sum := "5a4cefb38546dedac27d5e16032adacab6a6784282d73d80edd4624e98e858c8", func := "loop.example/g00219/laws.FnExactTakes", spec := "fnExactTakes", named := ["loop.example/g00219/impl.opRows"], apart := false, laid := [("loop.example/g00219/impl.opRows", laid_loop_example_g00219_impl_opRows)] }
def FnExactTakesSaid : Prop := fnExactTakesRow.holds Tryd.pinned (OpenSpec.ofChange fnExactTakesSpec)

/-- ITS FALSE NEIGHBOUR: 'it returns false'. Refute it at one input. -/
def fnExactTakesWrong : ChangeSpec := { name := "fnExactTakes", vars := ["loop.example/g00219/impl.opRows"], fn := fun _ => fun
  | [d1, d2, g1] => { results := [.lit (.bool false)], args := [d1, d2], vars := [g1] }
  | _ => none }
def FnExactTakesWrongFalsely : Prop := fnExactTakesRow.holds Tryd.pinned (OpenSpec.ofChange fnExactTakesWrong)

/-- 'laws.FnExactPuts': WHATEVER THE INPUT: true; the input reads as it did. -/
def fnExactPutsSpec : ChangeSpec := { name := "fnExactPuts", vars := ["loop.example/g00219/impl.opRows"], fn := fun _ => fun
  | [d, g1] => { results := [.lit (.bool true)], args := [d], vars := [g1] }
  | _ => none }
def fnExactPutsRow : OpenClaim := { program := "ytchlheionnfknaadoor", sum := "5a4cefb38546dedac27d5e16032adacab6a6784282d73d80edd4624e98e858c8", func := "loop.example/g00219/laws.FnExactPuts", spec := "fnExactPuts", named := ["loop.example/g00219/impl.opRows"], apart := false, laid := [("loop.example/g00219/impl.opRows", laid_loop_example_g00219_impl_opRows)] }
def FnExactPutsSaid : Prop := fnExactPutsRow.holds Tryd.pinned (OpenSpec.ofChange fnExactPutsSpec)

/-- ITS FALSE NEIGHBOUR: 'it returns false'. Refute it at one input. -/
def fnExactPutsWrong : ChangeSpec := { name := "fnExactPuts", vars := ["loop.example/g00219/impl.opRows"], fn := fun _ => fun
  | [d, g1] => { results := [.lit (.bool false)], args := [d], vars := [g1] }
  | _ => none }
def FnExactPutsWrongFalsely : Prop := fnExactPutsRow.holds Tryd.pinned (OpenSpec.ofChange fnExactPutsWrong)

/-- 'laws.FnExactInsRight': WHATEVER THE INPUT: true; the input reads as it did. -/
def fnExactInsRightSpec : ChangeSpec := { name := "fnExactInsRight", vars := ["loop.example/g00219/impl.opRows"], fn := fun _ => fun
  | [d1, d2, d3, g1] => { results := [.lit (.bool true)], args := [d1, d2, d3], vars := [g1] }
  | _ => none }
def fnExactInsRightRow : OpenClaim := { program := "ytchlheionnfknaadoor", sum := "5a4cefb38546dedac27d5e16032adacab6a6784282d73d80edd4624e98e858c8", func := "loop.example/g00219/laws.FnExactInsRight", spec := "fnExactInsRight", named := ["loop.example/g00219/impl.opRows"], apart := false, laid := [("loop.example/g00219/impl.opRows", laid_loop_example_g00219_impl_opRows)] }
def FnExactInsRightSaid : Prop := fnExactInsRightRow.holds Tryd.pinned (OpenSpec.ofChange fnExactInsRightSpec)

/-- ITS FALSE NEIGHBOUR: 'it returns false'. Refute it at one input. -/
def fnExactInsRightWrong : ChangeSpec := { name := "fnExactInsRight", vars := ["loop.example/g00219/impl.opRows"], fn := fun _ => fun
  | [d1, d2, d3, g1] => { results := [.lit (.bool false)], args := [d1, d2, d3], vars := [g1] }
  | _ => none }
def FnExactInsRightWrongFalsely : Prop := fnExactInsRightRow.holds Tryd.pinned (OpenSpec.ofChange fnExactInsRightWrong)

/- THE SECOND FORM. 'bulk': how many values and letters a reading holds, each counted each time it is reached (what is shared counts as often as it is met; a slice's spare places count too). A statement '..UptoSaid' is the law's where the arguments, and the package variables that the reading takes, are together of bulk at most 1048576: NARROWER than '..Said'. Prove '..Said' where nothing that the law and all that it calls make is longer than what came in: it says more and counts as full. Else prove '..UptoSaid'. A law counts once. -/
mutual
def uptoBulk {H : Type} : DataW H → Nat
  | .lit (.string bytes) => bytes.length + 1
  | .lit _ => 1
  | .nil => 1
  | .ptr d => uptoBulk d + 1
  | .slice elems spare => uptoBulkAll elems + uptoBulkAll spare + 1
  | .agg parts => uptoBulkAll parts + 1
  | .iface _ d => uptoBulk d + 1
  | .map entries => uptoBulkEntries entries + 1
  | .held _ => 1
def uptoBulkAll {H : Type} : List (DataW H) → Nat
  | [] => 0
  | d :: r => uptoBulk d + uptoBulkAll r
def uptoBulkEntries {H : Type} : List (Lit × DataW H) → Nat
  | [] => 0
  | x :: r => uptoBulkEntry x + uptoBulkEntries r
def uptoBulkEntry {H : Type} : Lit × DataW H → Nat
  | (.string bytes, d) => bytes.length + uptoBulk d + 1
  | (_, d) => uptoBulk d + 1
 end
def uptoSmall : (H : Type) → List (DataW H) → Bool := fun _ ds => decide (uptoBulkAll ds ≤ 1048576)
def OpenSpec.upto (s : _root_.Go.ChangeSpec) : _root_.Go.OpenSpec := { _root_.Go.OpenSpec.ofChange s with cond := some uptoSmall }

/-- 'laws.FnOpNames', WHERE WHAT IT READS IS OF BULK AT MOST 1048576: true; the input reads as it did. -/
def fnOpNamesUptoRow : OpenClaim := { program := "ytchlheionnfknaadoor", sum := "5a4cefb38546dedac27d5e16032adacab6a6784282d73d80edd4624e98e858c8", func := "loop.example/g00219/laws.FnOpNames", spec := "fnOpNames", named := ["loop.example/g00219/impl.opRows"], apart := false, laid := [("loop.example/g00219/impl.opRows", laid_loop_example_g00219_impl_opRows)], narrowed := true }
def FnOpNamesUptoSaid : Prop := fnOpNamesUptoRow.holds Tryd.pinned (OpenSpec.upto fnOpNamesSpec)

/-- 'laws.FnExactOpName', WHERE WHAT IT READS IS OF BULK AT MOST 1048576: true; the input reads as it did. -/
def fnExactOpNameUptoRow : OpenClaim := { program := "ytchlheionnfknaadoor", sum := "5a4cefb38546dedac27d5e16032adacab6a6784282d73d80edd4624e98e858c8", func := "loop.example/g00219/laws.FnExactOpName", spec := "fnExactOpName", named := ["loop.example/g00219/impl.opRows"], apart := false, laid := [("loop.example/g00219/impl.opRows", laid_loop_example_g00219_impl_opRows)], narrowed := true }
def FnExactOpNameUptoSaid : Prop := fnExactOpNameUptoRow.holds Tryd.pinned (OpenSpec.upto fnExactOpNameSpec)

/-- 'laws.FnExactTakes', WHERE WHAT IT READS IS OF BULK AT MOST 1048576: true; the input reads as it did. -/
def fnExactTakesUptoRow : OpenClaim := { program := "ytchlheionnfknaadoor", sum := "5a4cefb38546dedac27d5e16032adacab6a6784282d73d80edd4624e98e858c8", func := "loop.example/g00219/laws.FnExactTakes", spec := "fnExactTakes", named := ["loop.example/g00219/impl.opRows"], apart := false, laid := [("loop.example/g00219/impl.opRows", laid_loop_example_g00219_impl_opRows)], narrowed := true }
def FnExactTakesUptoSaid : Prop := fnExactTakesUptoRow.holds Tryd.pinned (OpenSpec.upto fnExactTakesSpec)

/-- 'laws.FnExactPuts', WHERE WHAT IT READS IS OF BULK AT MOST 1048576: true; the input reads as it did. -/
def fnExactPutsUptoRow : OpenClaim := { program := "ytchlheionnfknaadoor", sum := "5a4cefb38546dedac27d5e16032adacab6a6784282d73d80edd4624e98e858c8", func := "loop.example/g00219/laws.FnExactPuts", spec := "fnExactPuts", named := ["loop.example/g00219/impl.opRows"], apart := false, laid := [("loop.example/g00219/impl.opRows", laid_loop_example_g00219_impl_opRows)], narrowed := true }
def FnExactPutsUptoSaid : Prop := fnExactPutsUptoRow.holds Tryd.pinned (OpenSpec.upto fnExactPutsSpec)

/-- 'laws.FnExactInsRight', WHERE WHAT IT READS IS OF BULK AT MOST 1048576: true; the input reads as it did. -/
def fnExactInsRightUptoRow : OpenClaim := { program := "ytchlheionnfknaadoor", sum := "5a4cefb38546dedac27d5e16032adacab6a6784282d73d80edd4624e98e858c8", func := "loop.example/g00219/laws.FnExactInsRight", spec := "fnExactInsRight", named := ["loop.example/g00219/impl.opRows"], apart := false, laid := [("loop.example/g00219/impl.opRows", laid_loop_example_g00219_impl_opRows)], narrowed := true }
def FnExactInsRightUptoSaid : Prop := fnExactInsRightUptoRow.holds Tryd.pinned (OpenSpec.upto fnExactInsRightSpec)

end Rows
end Go.Proofs.YtchlheionnfknaaDoor
