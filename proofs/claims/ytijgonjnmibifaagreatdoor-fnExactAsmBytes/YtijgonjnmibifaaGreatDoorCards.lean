/-
  DERIVED. GIVEN WITH THE SEED: THE CARDS: each row of YtijgonjnmibifaaGreatDoorRows.lean that lists a variable, with what it lists TIED to the program's text (the seventh form; the later family's looks); each row that meets fmt, with fmt's text TOLD by the authors' own Lean function (tested against real Go, not proved from fmt's source: count such statements apart). THE CARD IS WHAT COUNTS. Prove the row's statement (the work); the ties are given (YtijgonjnmibifaaGreatDoorTie.lean); close each card by the builder's one call (the guide's Derived/Test/ToyasCard.lean, 'card_holds'). Laid BY PROGRAM, IN A SANDBOX (cutbox-door.mjs). By AI agents, Wed Nov 11 2026. No macro, syntax, notation, axiom, sorry.
-/
import Derived.Test.YtijgonjnmibifaaGreatDoorRows
import GoSem.ClaimSeven
namespace Go.Proofs.YtijgonjnmibifaaGreatDoor
namespace Rows

/-- THE TIED CARD OF 'laws.FnExactAsmBytes'. -/
def fnExactAsmBytesCard : Claim7 := { stood := { row := fnExactAsmBytesRow, standIns := [], harness := (true, "7899e18e9213f775d72cb32693fd1e64b25367d12318654c524cf0013594a1c7"), looks := true }, kinds := [], alts := [], laidByText := true, laidKinds := [.data], laidTests := true, laidLooks := .later }
def FnExactAsmBytesCardSaid : Prop := Claim7.holds Tryz.pinned (.plain (OpenSpec.ofChange fnExactAsmBytesSpec)) fnExactAsmBytesCard

/-- THE TIED CARD OF 'laws.FnExactAsmRead'. -/
def fnExactAsmReadCard : Claim7 := { stood := { row := fnExactAsmReadRow, standIns := [], harness := (true, "7899e18e9213f775d72cb32693fd1e64b25367d12318654c524cf0013594a1c7"), looks := true }, kinds := [], alts := [], laidByText := true, laidKinds := [.handle, .data], laidTests := true, laidLooks := .later }
def FnExactAsmReadCardSaid : Prop := Claim7.holds Tryz.pinned (.plain (OpenSpec.ofChange fnExactAsmReadSpec)) fnExactAsmReadCard

/-- THE SECOND FORM's CARD OF 'laws.FnExactAsmBytes'. -/
def fnExactAsmBytesUptoCard : Claim7 := { stood := { row := fnExactAsmBytesUptoRow, standIns := [], harness := (true, "7899e18e9213f775d72cb32693fd1e64b25367d12318654c524cf0013594a1c7"), looks := true }, kinds := [], alts := [], laidByText := true, laidKinds := [.data], laidTests := true, laidLooks := .later }
def FnExactAsmBytesUptoCardSaid : Prop := Claim7.holds Tryz.pinned (.plain (OpenSpec.upto fnExactAsmBytesSpec)) fnExactAsmBytesUptoCard

/-- THE SECOND FORM's CARD OF 'laws.FnExactAsmRead'. -/
def fnExactAsmReadUptoCard : Claim7 := { stood := { row := fnExactAsmReadUptoRow, standIns := [], harness := (true, "7899e18e9213f775d72cb32693fd1e64b25367d12318654c524cf0013594a1c7"), looks := true }, kinds := [], alts := [], laidByText := true, laidKinds := [.handle, .data], laidTests := true, laidLooks := .later }
def FnExactAsmReadUptoCardSaid : Prop := Claim7.holds Tryz.pinned (.plain (OpenSpec.upto fnExactAsmReadSpec)) fnExactAsmReadUptoCard
end Rows
end Go.Proofs.YtijgonjnmibifaaGreatDoor
