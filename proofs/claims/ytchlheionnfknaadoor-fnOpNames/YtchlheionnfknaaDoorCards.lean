/-
  DERIVED. GIVEN WITH THE SEED: THE CARDS: each row of YtchlheionnfknaaDoorRows.lean that lists a variable, with what it lists TIED to the program's text (the seventh form; the later family's looks); each row that meets fmt, with fmt's text TOLD by the authors' own Lean function (tested against real Go, not proved from fmt's source: count such statements apart). THE CARD IS WHAT COUNTS. Prove the row's statement (the work); the ties are given (YtchlheionnfknaaDoorTie.lean); close each card by the builder's one call (the guide's Derived/Test/ToyasCard.lean, 'card_holds'). Laid BY PROGRAM, IN A SANDBOX (cutbox-door.mjs). By AI agents, Wed Nov 11 2026. No macro, syntax, notation, axiom, sorry.
-/
import Derived.Test.YtchlheionnfknaaDoorRows
import GoSem.ClaimSeven
namespace Go.Proofs.YtchlheionnfknaaDoor
namespace Rows

/-- THE TIED CARD OF 'laws.FnOpNames'. -/
def fnOpNamesCard : Claim7 := { stood := { row := fnOpNamesRow, standIns := [], harness := (true, "41e715c9233c57d08b12026e626224d57f3e2129a3da470f2ea5e03381605a8b"), looks := false }, kinds := [], alts := [], laidByText := true, laidKinds := [.data], laidTests := true, laidLooks := .later }
def FnOpNamesCardSaid : Prop := Claim7.holds Tryd.pinned (.plain (OpenSpec.ofChange fnOpNamesSpec)) fnOpNamesCard

/-- THE TIED CARD OF 'laws.FnExactOpName'. -/
def fnExactOpNameCard : Claim7 := { stood := { row := fnExactOpNameRow, standIns := [], harness := (true, "41e715c9233c57d08b12026e626224d57f3e2129a3da470f2ea5e03381605a8b"), looks := false }, kinds := [], alts := [], laidByText := true, laidKinds := [.data], laidTests := true, laidLooks := .later }
def FnExactOpNameCardSaid : Prop := Claim7.holds Tryd.pinned (.plain (OpenSpec.ofChange fnExactOpNameSpec)) fnExactOpNameCard

/-- THE TIED CARD OF 'laws.FnExactTakes'. -/
def fnExactTakesCard : Claim7 := { stood := { row := fnExactTakesRow, standIns := [], harness := (true, "41e715c9233c57d08b12026e626224d57f3e2129a3da470f2ea5e03381605a8b"), looks := false }, kinds := [], alts := [], laidByText := true, laidKinds := [.data], laidTests := true, laidLooks := .later }
def FnExactTakesCardSaid : Prop := Claim7.holds Tryd.pinned (.plain (OpenSpec.ofChange fnExactTakesSpec)) fnExactTakesCard

/-- THE TIED CARD OF 'laws.FnExactPuts'. -/
def fnExactPutsCard : Claim7 := { stood := { row := fnExactPutsRow, standIns := [], harness := (true, "41e715c9233c57d08b12026e626224d57f3e2129a3da470f2ea5e03381605a8b"), looks := false }, kinds := [], alts := [], laidByText := true, laidKinds := [.data], laidTests := true, laidLooks := .later }
def FnExactPutsCardSaid : Prop := Claim7.holds Tryd.pinned (.plain (OpenSpec.ofChange fnExactPutsSpec)) fnExactPutsCard

/-- THE TIED CARD OF 'laws.FnExactInsRight'. -/
def fnExactInsRightCard : Claim7 := { stood := { row := fnExactInsRightRow, standIns := [], harness := (true, "41e715c9233c57d08b12026e626224d57f3e2129a3da470f2ea5e03381605a8b"), looks := false }, kinds := [], alts := [], laidByText := true, laidKinds := [.data], laidTests := true, laidLooks := .later }
def FnExactInsRightCardSaid : Prop := Claim7.holds Tryd.pinned (.plain (OpenSpec.ofChange fnExactInsRightSpec)) fnExactInsRightCard

/-- THE SECOND FORM's CARD OF 'laws.FnOpNames'. -/
def fnOpNamesUptoCard : Claim7 := { stood := { row := fnOpNamesUptoRow, standIns := [], harness := (true, "41e715c9233c57d08b12026e626224d57f3e2129a3da470f2ea5e03381605a8b"), looks := false }, kinds := [], alts := [], laidByText := true, laidKinds := [.data], laidTests := true, laidLooks := .later }
def FnOpNamesUptoCardSaid : Prop := Claim7.holds Tryd.pinned (.plain (OpenSpec.upto fnOpNamesSpec)) fnOpNamesUptoCard

/-- THE SECOND FORM's CARD OF 'laws.FnExactOpName'. -/
def fnExactOpNameUptoCard : Claim7 := { stood := { row := fnExactOpNameUptoRow, standIns := [], harness := (true, "41e715c9233c57d08b12026e626224d57f3e2129a3da470f2ea5e03381605a8b"), looks := false }, kinds := [], alts := [], laidByText := true, laidKinds := [.data], laidTests := true, laidLooks := .later }
def FnExactOpNameUptoCardSaid : Prop := Claim7.holds Tryd.pinned (.plain (OpenSpec.upto fnExactOpNameSpec)) fnExactOpNameUptoCard

/-- THE SECOND FORM's CARD OF 'laws.FnExactTakes'. -/
def fnExactTakesUptoCard : Claim7 := { stood := { row := fnExactTakesUptoRow, standIns := [], harness := (true, "41e715c9233c57d08b12026e626224d57f3e2129a3da470f2ea5e03381605a8b"), looks := false }, kinds := [], alts := [], laidByText := true, laidKinds := [.data], laidTests := true, laidLooks := .later }
def FnExactTakesUptoCardSaid : Prop := Claim7.holds Tryd.pinned (.plain (OpenSpec.upto fnExactTakesSpec)) fnExactTakesUptoCard

/-- THE SECOND FORM's CARD OF 'laws.FnExactPuts'. -/
def fnExactPutsUptoCard : Claim7 := { stood := { row := fnExactPutsUptoRow, standIns := [], harness := (true, "41e715c9233c57d08b12026e626224d57f3e2129a3da470f2ea5e03381605a8b"), looks := false }, kinds := [], alts := [], laidByText := true, laidKinds := [.data], laidTests := true, laidLooks := .later }
def FnExactPutsUptoCardSaid : Prop := Claim7.holds Tryd.pinned (.plain (OpenSpec.upto fnExactPutsSpec)) fnExactPutsUptoCard

/-- THE SECOND FORM's CARD OF 'laws.FnExactInsRight'. -/
def fnExactInsRightUptoCard : Claim7 := { stood := { row := fnExactInsRightUptoRow, standIns := [], harness := (true, "41e715c9233c57d08b12026e626224d57f3e2129a3da470f2ea5e03381605a8b"), looks := false }, kinds := [], alts := [], laidByText := true, laidKinds := [.data], laidTests := true, laidLooks := .later }
def FnExactInsRightUptoCardSaid : Prop := Claim7.holds Tryd.pinned (.plain (OpenSpec.upto fnExactInsRightSpec)) fnExactInsRightUptoCard
end Rows
end Go.Proofs.YtchlheionnfknaaDoor
