/-
  DERIVED. GIVEN WITH THE SEED: THE CARDS: each row of YtpaiamcidpahpaaDoorRows.lean that lists a variable, with what it lists TIED to the program's text (the seventh form; the later family's looks); each row that meets fmt, with fmt's text TOLD by the authors' own Lean function (tested against real Go, not proved from fmt's source: count such statements apart). THE CARD IS WHAT COUNTS. Prove the row's statement (the work); the ties are given (YtpaiamcidpahpaaDoorTie.lean); close each card by the builder's one call (the guide's Derived/Test/ToyasCard.lean, 'card_holds'). Laid BY PROGRAM, IN A SANDBOX (cutbox-door.mjs). By AI agents, Wed Nov 11 2026. No macro, syntax, notation, axiom, sorry.
-/
import Derived.Test.YtpaiamcidpahpaaDoorRows
import GoSem.ClaimSeven
namespace Go.Proofs.YtpaiamcidpahpaaDoor
namespace Rows

/-- THE TIED CARD OF 'laws.FnHeights'. -/
def fnHeightsCard : Claim7 := { stood := { row := fnHeightsRow, standIns := [], harness := (true, "9d054963c5561e2c1aebd8926b955ce00fbff04a790199a97b31eb7f07fb1f7b"), looks := true }, kinds := [], alts := [], laidByText := true, laidKinds := [.data], laidTests := true, laidLooks := .later }
def FnHeightsCardSaid : Prop := Claim7.holds Tryd.pinned (.plain (OpenSpec.ofChange fnHeightsSpec)) fnHeightsCard

/-- THE TIED CARD OF 'laws.FnFileCut'. -/
def fnFileCutCard : Claim7 := { stood := { row := fnFileCutRow, standIns := [], harness := (true, "9d054963c5561e2c1aebd8926b955ce00fbff04a790199a97b31eb7f07fb1f7b"), looks := true }, kinds := [], alts := [], laidByText := true, laidKinds := [.handle, .data], laidTests := true, laidLooks := .later }
def FnFileCutCardSaid : Prop := Claim7.holds Tryd.pinned (.plain (OpenSpec.ofChange fnFileCutSpec)) fnFileCutCard

/-- THE TIED CARD OF 'laws.FnExactHeaders'. -/
def fnExactHeadersCard : Claim7 := { stood := { row := fnExactHeadersRow, standIns := [], harness := (true, "9d054963c5561e2c1aebd8926b955ce00fbff04a790199a97b31eb7f07fb1f7b"), looks := true }, kinds := [], alts := [], laidByText := true, laidKinds := [.data], laidTests := true, laidLooks := .later }
def FnExactHeadersCardSaid : Prop := Claim7.holds Tryd.pinned (.plain (OpenSpec.ofChange fnExactHeadersSpec)) fnExactHeadersCard

/-- THE TIED CARD OF 'laws.FnExactFileBytes'. -/
def fnExactFileBytesCard : Claim7 := { stood := { row := fnExactFileBytesRow, standIns := [], harness := (true, "9d054963c5561e2c1aebd8926b955ce00fbff04a790199a97b31eb7f07fb1f7b"), looks := true }, kinds := [], alts := [], laidByText := true, laidKinds := [.data], laidTests := true, laidLooks := .later }
def FnExactFileBytesCardSaid : Prop := Claim7.holds Tryd.pinned (.plain (OpenSpec.ofChange fnExactFileBytesSpec)) fnExactFileBytesCard

/-- THE TIED CARD OF 'laws.FnExactFileRead'. -/
def fnExactFileReadCard : Claim7 := { stood := { row := fnExactFileReadRow, standIns := [], harness := (true, "9d054963c5561e2c1aebd8926b955ce00fbff04a790199a97b31eb7f07fb1f7b"), looks := true }, kinds := [], alts := [], laidByText := true, laidKinds := [.handle, .data], laidTests := true, laidLooks := .later }
def FnExactFileReadCardSaid : Prop := Claim7.holds Tryd.pinned (.plain (OpenSpec.ofChange fnExactFileReadSpec)) fnExactFileReadCard

/-- THE SECOND FORM's CARD OF 'laws.FnHeights'. -/
def fnHeightsUptoCard : Claim7 := { stood := { row := fnHeightsUptoRow, standIns := [], harness := (true, "9d054963c5561e2c1aebd8926b955ce00fbff04a790199a97b31eb7f07fb1f7b"), looks := true }, kinds := [], alts := [], laidByText := true, laidKinds := [.data], laidTests := true, laidLooks := .later }
def FnHeightsUptoCardSaid : Prop := Claim7.holds Tryd.pinned (.plain (OpenSpec.upto fnHeightsSpec)) fnHeightsUptoCard

/-- THE SECOND FORM's CARD OF 'laws.FnFileCut'. -/
def fnFileCutUptoCard : Claim7 := { stood := { row := fnFileCutUptoRow, standIns := [], harness := (true, "9d054963c5561e2c1aebd8926b955ce00fbff04a790199a97b31eb7f07fb1f7b"), looks := true }, kinds := [], alts := [], laidByText := true, laidKinds := [.handle, .data], laidTests := true, laidLooks := .later }
def FnFileCutUptoCardSaid : Prop := Claim7.holds Tryd.pinned (.plain (OpenSpec.upto fnFileCutSpec)) fnFileCutUptoCard

/-- THE SECOND FORM's CARD OF 'laws.FnExactHeaders'. -/
def fnExactHeadersUptoCard : Claim7 := { stood := { row := fnExactHeadersUptoRow, standIns := [], harness := (true, "9d054963c5561e2c1aebd8926b955ce00fbff04a790199a97b31eb7f07fb1f7b"), looks := true }, kinds := [], alts := [], laidByText := true, laidKinds := [.data], laidTests := true, laidLooks := .later }
def FnExactHeadersUptoCardSaid : Prop := Claim7.holds Tryd.pinned (.plain (OpenSpec.upto fnExactHeadersSpec)) fnExactHeadersUptoCard

/-- THE SECOND FORM's CARD OF 'laws.FnExactFileBytes'. -/
def fnExactFileBytesUptoCard : Claim7 := { stood := { row := fnExactFileBytesUptoRow, standIns := [], harness := (true, "9d054963c5561e2c1aebd8926b955ce00fbff04a790199a97b31eb7f07fb1f7b"), looks := true }, kinds := [], alts := [], laidByText := true, laidKinds := [.data], laidTests := true, laidLooks := .later }
def FnExactFileBytesUptoCardSaid : Prop := Claim7.holds Tryd.pinned (.plain (OpenSpec.upto fnExactFileBytesSpec)) fnExactFileBytesUptoCard

/-- THE SECOND FORM's CARD OF 'laws.FnExactFileRead'. -/
def fnExactFileReadUptoCard : Claim7 := { stood := { row := fnExactFileReadUptoRow, standIns := [], harness := (true, "9d054963c5561e2c1aebd8926b955ce00fbff04a790199a97b31eb7f07fb1f7b"), looks := true }, kinds := [], alts := [], laidByText := true, laidKinds := [.handle, .data], laidTests := true, laidLooks := .later }
def FnExactFileReadUptoCardSaid : Prop := Claim7.holds Tryd.pinned (.plain (OpenSpec.upto fnExactFileReadSpec)) fnExactFileReadUptoCard
end Rows
end Go.Proofs.YtpaiamcidpahpaaDoor
