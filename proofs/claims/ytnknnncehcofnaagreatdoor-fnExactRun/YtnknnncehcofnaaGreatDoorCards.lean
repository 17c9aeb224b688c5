/-
  DERIVED. GIVEN WITH THE SEED: THE CARDS: each row of YtnknnncehcofnaaGreatDoorRows.lean that lists a variable, with what it lists TIED to the program's text (the seventh form; the later family's looks); each row that meets fmt, with fmt's text TOLD by the authors' own Lean function (tested against real Go, not proved from fmt's source: count such statements apart). THE CARD IS WHAT COUNTS. Prove the row's statement (the work); the ties are given (YtnknnncehcofnaaGreatDoorTie.lean); close each card by the builder's one call (the guide's Derived/Test/ToyasCard.lean, 'card_holds'). Laid BY PROGRAM, IN A SANDBOX (cutbox-door.mjs). By AI agents, Wed Nov 11 2026. No macro, syntax, notation, axiom, sorry.
-/
import Derived.Test.YtnknnncehcofnaaGreatDoorRows
import GoSem.ClaimSeven
namespace Go.Proofs.YtnknnncehcofnaaGreatDoor
namespace Rows

/-- THE TIED CARD OF 'laws.FnHomes'. -/
def fnHomesCard : Claim7 := { stood := { row := fnHomesRow, standIns := [], harness := (true, "10286d2970df9978957aa1f0b873968e02f3ec7468e97e4fb918efe60b3e89b2"), looks := false }, kinds := [], alts := [], laidByText := true, laidKinds := [.data], laidTests := true, laidLooks := .later }
def FnHomesCardSaid : Prop := Claim7.holds Tryz.pinned (.plain (OpenSpec.ofChange fnHomesSpec)) fnHomesCard

/-- THE TIED CARD OF 'laws.FnExactStep'. -/
def fnExactStepCard : Claim7 := { stood := { row := fnExactStepRow, standIns := [], harness := (true, "10286d2970df9978957aa1f0b873968e02f3ec7468e97e4fb918efe60b3e89b2"), looks := false }, kinds := [], alts := [], laidByText := true, laidKinds := [.data], laidTests := true, laidLooks := .later }
def FnExactStepCardSaid : Prop := Claim7.holds Tryz.pinned (.plain (OpenSpec.ofChange fnExactStepSpec)) fnExactStepCard

/-- THE TIED CARD OF 'laws.FnExactRun'. -/
def fnExactRunCard : Claim7 := { stood := { row := fnExactRunRow, standIns := [], harness := (true, "10286d2970df9978957aa1f0b873968e02f3ec7468e97e4fb918efe60b3e89b2"), looks := false }, kinds := [], alts := [], laidByText := true, laidKinds := [.data], laidTests := true, laidLooks := .later }
def FnExactRunCardSaid : Prop := Claim7.holds Tryz.pinned (.plain (OpenSpec.ofChange fnExactRunSpec)) fnExactRunCard

/-- THE TIED CARD OF 'laws.FnExactWatch'. -/
def fnExactWatchCard : Claim7 := { stood := { row := fnExactWatchRow, standIns := [], harness := (true, "10286d2970df9978957aa1f0b873968e02f3ec7468e97e4fb918efe60b3e89b2"), looks := false }, kinds := [], alts := [], laidByText := true, laidKinds := [.data], laidTests := true, laidLooks := .later }
def FnExactWatchCardSaid : Prop := Claim7.holds Tryz.pinned (.plain (OpenSpec.ofChange fnExactWatchSpec)) fnExactWatchCard

/-- THE TIED CARD OF 'laws.FnExactHomes'. -/
def fnExactHomesCard : Claim7 := { stood := { row := fnExactHomesRow, standIns := [], harness := (true, "10286d2970df9978957aa1f0b873968e02f3ec7468e97e4fb918efe60b3e89b2"), looks := false }, kinds := [], alts := [], laidByText := true, laidKinds := [.data], laidTests := true, laidLooks := .later }
def FnExactHomesCardSaid : Prop := Claim7.holds Tryz.pinned (.plain (OpenSpec.ofChange fnExactHomesSpec)) fnExactHomesCard

/-- THE SECOND FORM's CARD OF 'laws.FnHomes'. -/
def fnHomesUptoCard : Claim7 := { stood := { row := fnHomesUptoRow, standIns := [], harness := (true, "10286d2970df9978957aa1f0b873968e02f3ec7468e97e4fb918efe60b3e89b2"), looks := false }, kinds := [], alts := [], laidByText := true, laidKinds := [.data], laidTests := true, laidLooks := .later }
def FnHomesUptoCardSaid : Prop := Claim7.holds Tryz.pinned (.plain (OpenSpec.upto fnHomesSpec)) fnHomesUptoCard

/-- THE SECOND FORM's CARD OF 'laws.FnExactStep'. -/
def fnExactStepUptoCard : Claim7 := { stood := { row := fnExactStepUptoRow, standIns := [], harness := (true, "10286d2970df9978957aa1f0b873968e02f3ec7468e97e4fb918efe60b3e89b2"), looks := false }, kinds := [], alts := [], laidByText := true, laidKinds := [.data], laidTests := true, laidLooks := .later }
def FnExactStepUptoCardSaid : Prop := Claim7.holds Tryz.pinned (.plain (OpenSpec.upto fnExactStepSpec)) fnExactStepUptoCard

/-- THE SECOND FORM's CARD OF 'laws.FnExactRun'. -/
def fnExactRunUptoCard : Claim7 := { stood := { row := fnExactRunUptoRow, standIns := [], harness := (true, "10286d2970df9978957aa1f0b873968e02f3ec7468e97e4fb918efe60b3e89b2"), looks := false }, kinds := [], alts := [], laidByText := true, laidKinds := [.data], laidTests := true, laidLooks := .later }
def FnExactRunUptoCardSaid : Prop := Claim7.holds Tryz.pinned (.plain (OpenSpec.upto fnExactRunSpec)) fnExactRunUptoCard

/-- THE SECOND FORM's CARD OF 'laws.FnExactWatch'. -/
def fnExactWatchUptoCard : Claim7 := { stood := { row := fnExactWatchUptoRow, standIns := [], harness := (true, "10286d2970df9978957aa1f0b873968e02f3ec7468e97e4fb918efe60b3e89b2"), looks := false }, kinds := [], alts := [], laidByText := true, laidKinds := [.data], laidTests := true, laidLooks := .later }
def FnExactWatchUptoCardSaid : Prop := Claim7.holds Tryz.pinned (.plain (OpenSpec.upto fnExactWatchSpec)) fnExactWatchUptoCard

/-- THE SECOND FORM's CARD OF 'laws.FnExactHomes'. -/
def fnExactHomesUptoCard : Claim7 := { stood := { row := fnExactHomesUptoRow, standIns := [], harness := (true, "10286d2970df9978957aa1f0b873968e02f3ec7468e97e4fb918efe60b3e89b2"), looks := false }, kinds := [], alts := [], laidByText := true, laidKinds := [.data], laidTests := true, laidLooks := .later }
def FnExactHomesUptoCardSaid : Prop := Claim7.holds Tryz.pinned (.plain (OpenSpec.upto fnExactHomesSpec)) fnExactHomesUptoCard
end Rows
end Go.Proofs.YtnknnncehcofnaaGreatDoor
