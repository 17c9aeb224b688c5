/-
  DERIVED. GIVEN WITH THE SEED: THE CARDS: each row of YtclcnillnfkjoaaGreatDoorRows.lean that lists a variable, with what it lists TIED to the program's text (the seventh form; the later family's looks); each row that meets fmt, with fmt's text TOLD by the authors' own Lean function (tested against real Go, not proved from fmt's source: count such statements apart). THE CARD IS WHAT COUNTS. Prove the row's statement (the work); the ties are given (YtclcnillnfkjoaaGreatDoorTie.lean); close each card by the builder's one call (the guide's Derived/Test/ToyasCard.lean, 'card_holds'). Laid BY PROGRAM, IN A SANDBOX (cutbox-door.mjs). By AI agents, Wed Nov 11 2026. No macro, syntax, notation, axiom, sorry.
-/
import Derived.Test.YtclcnillnfkjoaaGreatDoorRows
import GoSem.ClaimSeven
namespace Go.Proofs.YtclcnillnfkjoaaGreatDoor
namespace Rows

/-- THE TIED CARD OF 'laws.FnFile'. -/
def fnFileCard : Claim7 := { stood := { row := fnFileRow, standIns := [], harness := (true, "d18e8cae980fb4ba9392c51f68d9f7bfe23fc47cd7cd0612ad02b5c4a1ba5e8f"), looks := true }, kinds := [], alts := [], laidByText := true, laidKinds := [.handle, .data], laidTests := true, laidLooks := .later }
def FnFileCardSaid : Prop := Claim7.holds Tryz.pinned (.plain (OpenSpec.ofChange fnFileSpec)) fnFileCard

/-- THE TIED CARD OF 'laws.FnExactSeenAdd'. -/
def fnExactSeenAddCard : Claim7 := { stood := { row := fnExactSeenAddRow, standIns := [], harness := (true, "d18e8cae980fb4ba9392c51f68d9f7bfe23fc47cd7cd0612ad02b5c4a1ba5e8f"), looks := true }, kinds := [], alts := [], laidByText := true, laidKinds := [.data], laidTests := true, laidLooks := .later }
def FnExactSeenAddCardSaid : Prop := Claim7.holds Tryz.pinned (.plain (OpenSpec.ofChange fnExactSeenAddSpec)) fnExactSeenAddCard

/-- THE SECOND FORM's CARD OF 'laws.FnFile'. -/
def fnFileUptoCard : Claim7 := { stood := { row := fnFileUptoRow, standIns := [], harness := (true, "d18e8cae980fb4ba9392c51f68d9f7bfe23fc47cd7cd0612ad02b5c4a1ba5e8f"), looks := true }, kinds := [], alts := [], laidByText := true, laidKinds := [.handle, .data], laidTests := true, laidLooks := .later }
def FnFileUptoCardSaid : Prop := Claim7.holds Tryz.pinned (.plain (OpenSpec.upto fnFileSpec)) fnFileUptoCard

/-- THE SECOND FORM's CARD OF 'laws.FnExactSeenAdd'. -/
def fnExactSeenAddUptoCard : Claim7 := { stood := { row := fnExactSeenAddUptoRow, standIns := [], harness := (true, "d18e8cae980fb4ba9392c51f68d9f7bfe23fc47cd7cd0612ad02b5c4a1ba5e8f"), looks := true }, kinds := [], alts := [], laidByText := true, laidKinds := [.data], laidTests := true, laidLooks := .later }
def FnExactSeenAddUptoCardSaid : Prop := Claim7.holds Tryz.pinned (.plain (OpenSpec.upto fnExactSeenAddSpec)) fnExactSeenAddUptoCard
end Rows
end Go.Proofs.YtclcnillnfkjoaaGreatDoor
