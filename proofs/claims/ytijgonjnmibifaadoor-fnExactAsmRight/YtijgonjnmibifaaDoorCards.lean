/-
  DERIVED. GIVEN WITH THE SEED: THE CARDS: each row of YtijgonjnmibifaaDoorRows.lean that lists a variable, with what it lists TIED to the program's text (the seventh form; the later family's looks); each row that meets fmt, with fmt's text TOLD by the authors' own Lean function (tested against real Go, not proved from fmt's source: count such statements apart). THE CARD IS WHAT COUNTS. Prove the row's statement (the work); the ties are given (YtijgonjnmibifaaDoorTie.lean); close each card by the builder's one call (the guide's Derived/Test/ToyasCard.lean, 'card_holds'). Laid BY PROGRAM, IN A SANDBOX (cutbox-door.mjs). By AI agents, Wed Nov 11 2026. No macro, syntax, notation, axiom, sorry.
-/
import Derived.Test.YtijgonjnmibifaaDoorRows
import GoSem.ClaimSeven
namespace Go.Proofs.YtijgonjnmibifaaDoor
namespace Rows

/-- THE TIED CARD OF 'laws.FnExactFileRead'. -/
def fnExactFileReadCard : Claim7 := { stood := { row := fnExactFileReadRow, standIns := [], harness := (true, "24acfdc736f068b39de1df1152be666b7c3d7b84d1372fd6853cba6160f27f23"), looks := true }, kinds := [], alts := [], laidByText := true, laidKinds := [.handle, .data], laidTests := true, laidLooks := .later }
def FnExactFileReadCardSaid : Prop := Claim7.holds Tryd.pinned (.plain (OpenSpec.ofChange fnExactFileReadSpec)) fnExactFileReadCard

/-- THE TIED CARD OF 'laws.FnExactAsmRight'. -/
def fnExactAsmRightCard : Claim7 := { stood := { row := fnExactAsmRightRow, standIns := [], harness := (true, "24acfdc736f068b39de1df1152be666b7c3d7b84d1372fd6853cba6160f27f23"), looks := true }, kinds := [], alts := [], laidByText := true, laidKinds := [.data], laidTests := true, laidLooks := .later }
def FnExactAsmRightCardSaid : Prop := Claim7.holds Tryd.pinned (.plain (OpenSpec.ofChange fnExactAsmRightSpec)) fnExactAsmRightCard

/-- THE SECOND FORM's CARD OF 'laws.FnExactFileRead'. -/
def fnExactFileReadUptoCard : Claim7 := { stood := { row := fnExactFileReadUptoRow, standIns := [], harness := (true, "24acfdc736f068b39de1df1152be666b7c3d7b84d1372fd6853cba6160f27f23"), looks := true }, kinds := [], alts := [], laidByText := true, laidKinds := [.handle, .data], laidTests := true, laidLooks := .later }
def FnExactFileReadUptoCardSaid : Prop := Claim7.holds Tryd.pinned (.plain (OpenSpec.upto fnExactFileReadSpec)) fnExactFileReadUptoCard

/-- THE SECOND FORM's CARD OF 'laws.FnExactAsmRight'. -/
def fnExactAsmRightUptoCard : Claim7 := { stood := { row := fnExactAsmRightUptoRow, standIns := [], harness := (true, "24acfdc736f068b39de1df1152be666b7c3d7b84d1372fd6853cba6160f27f23"), looks := true }, kinds := [], alts := [], laidByText := true, laidKinds := [.data], laidTests := true, laidLooks := .later }
def FnExactAsmRightUptoCardSaid : Prop := Claim7.holds Tryd.pinned (.plain (OpenSpec.upto fnExactAsmRightSpec)) fnExactAsmRightUptoCard
end Rows
end Go.Proofs.YtijgonjnmibifaaDoor
