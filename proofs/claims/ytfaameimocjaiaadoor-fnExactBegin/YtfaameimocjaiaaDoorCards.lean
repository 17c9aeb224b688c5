/-
  DERIVED. GIVEN WITH THE SEED: THE CARDS: each row of YtfaameimocjaiaaDoorRows.lean that lists a variable, with what it lists TIED to the program's text (the seventh form; the later family's looks); each row that meets fmt, with fmt's text TOLD by the authors' own Lean function (tested against real Go, not proved from fmt's source: count such statements apart). THE CARD IS WHAT COUNTS. Prove the row's statement (the work); the ties are given (YtfaameimocjaiaaDoorTie.lean); close each card by the builder's one call (the guide's Derived/Test/ToyasCard.lean, 'card_holds'). Laid BY PROGRAM, IN A SANDBOX (cutbox-door.mjs). By AI agents, Wed Nov 11 2026. No macro, syntax, notation, axiom, sorry.
-/
import Derived.Test.YtfaameimocjaiaaDoorRows
import GoSem.ClaimSeven
namespace Go.Proofs.YtfaameimocjaiaaDoor
namespace Rows

/-- THE TIED CARD OF 'laws.FnExactFileBytes'. -/
def fnExactFileBytesCard : Claim7 := { stood := { row := fnExactFileBytesRow, standIns := [], harness := (true, "3cb6d10461878c5e231f8e4127103fda69dd6cab3535f6dd2438cb248737968e"), looks := false }, kinds := [], alts := [], laidByText := true, laidKinds := [.data], laidTests := true, laidLooks := .later }
def FnExactFileBytesCardSaid : Prop := Claim7.holds Tryd.pinned (.plain (OpenSpec.ofChange fnExactFileBytesSpec)) fnExactFileBytesCard

/-- THE TIED CARD OF 'laws.FnExactBegin'. -/
def fnExactBeginCard : Claim7 := { stood := { row := fnExactBeginRow, standIns := [], harness := (true, "3cb6d10461878c5e231f8e4127103fda69dd6cab3535f6dd2438cb248737968e"), looks := false }, kinds := [], alts := [], laidByText := true, laidKinds := [.data], laidTests := true, laidLooks := .later }
def FnExactBeginCardSaid : Prop := Claim7.holds Tryd.pinned (.plain (OpenSpec.ofChange fnExactBeginSpec)) fnExactBeginCard

/-- THE TIED CARD OF 'laws.FnExactStateRight'. -/
def fnExactStateRightCard : Claim7 := { stood := { row := fnExactStateRightRow, standIns := [], harness := (true, "3cb6d10461878c5e231f8e4127103fda69dd6cab3535f6dd2438cb248737968e"), looks := false }, kinds := [], alts := [], laidByText := true, laidKinds := [.data], laidTests := true, laidLooks := .later }
def FnExactStateRightCardSaid : Prop := Claim7.holds Tryd.pinned (.plain (OpenSpec.ofChange fnExactStateRightSpec)) fnExactStateRightCard

/-- THE SECOND FORM's CARD OF 'laws.FnExactFileBytes'. -/
def fnExactFileBytesUptoCard : Claim7 := { stood := { row := fnExactFileBytesUptoRow, standIns := [], harness := (true, "3cb6d10461878c5e231f8e4127103fda69dd6cab3535f6dd2438cb248737968e"), looks := false }, kinds := [], alts := [], laidByText := true, laidKinds := [.data], laidTests := true, laidLooks := .later }
def FnExactFileBytesUptoCardSaid : Prop := Claim7.holds Tryd.pinned (.plain (OpenSpec.upto fnExactFileBytesSpec)) fnExactFileBytesUptoCard

/-- THE SECOND FORM's CARD OF 'laws.FnExactBegin'. -/
def fnExactBeginUptoCard : Claim7 := { stood := { row := fnExactBeginUptoRow, standIns := [], harness := (true, "3cb6d10461878c5e231f8e4127103fda69dd6cab3535f6dd2438cb248737968e"), looks := false }, kinds := [], alts := [], laidByText := true, laidKinds := [.data], laidTests := true, laidLooks := .later }
def FnExactBeginUptoCardSaid : Prop := Claim7.holds Tryd.pinned (.plain (OpenSpec.upto fnExactBeginSpec)) fnExactBeginUptoCard

/-- THE SECOND FORM's CARD OF 'laws.FnExactStateRight'. -/
def fnExactStateRightUptoCard : Claim7 := { stood := { row := fnExactStateRightUptoRow, standIns := [], harness := (true, "3cb6d10461878c5e231f8e4127103fda69dd6cab3535f6dd2438cb248737968e"), looks := false }, kinds := [], alts := [], laidByText := true, laidKinds := [.data], laidTests := true, laidLooks := .later }
def FnExactStateRightUptoCardSaid : Prop := Claim7.holds Tryd.pinned (.plain (OpenSpec.upto fnExactStateRightSpec)) fnExactStateRightUptoCard
end Rows
end Go.Proofs.YtfaameimocjaiaaDoor
