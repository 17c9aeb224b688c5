/-
  DERIVED. GIVEN WITH THE SEED: THE CARDS: each row of YtpgcmfomlhfjdaaDoorRows.lean that lists a variable, with what it lists TIED to the program's text (the seventh form; the later family's looks); each row that meets fmt, with fmt's text TOLD by the authors' own Lean function (tested against real Go, not proved from fmt's source: count such statements apart). THE CARD IS WHAT COUNTS. Prove the row's statement (the work); the ties are given (YtpgcmfomlhfjdaaDoorTie.lean); close each card by the builder's one call (the guide's Derived/Test/ToyasCard.lean, 'card_holds'). Laid BY PROGRAM, IN A SANDBOX (cutbox-door.mjs). By AI agents, Wed Nov 11 2026. No macro, syntax, notation, axiom, sorry.
-/
import Derived.Test.YtpgcmfomlhfjdaaDoorRows
import GoSem.ClaimSeven
namespace Go.Proofs.YtpgcmfomlhfjdaaDoor
namespace Rows

/-- THE TIED CARD OF 'laws.FnHeights'. -/
def fnHeightsCard : Claim7 := { stood := { row := fnHeightsRow, standIns := [], harness := (true, "94ea7ba6540956d93e23a12303e1e833c378b00e9b75ef11133e50ace0babc5a"), looks := false }, kinds := [], alts := [], laidByText := true, laidKinds := [.data], laidTests := true, laidLooks := .later }
def FnHeightsCardSaid : Prop := Claim7.holds Tryd.pinned (.plain (OpenSpec.ofChange fnHeightsSpec)) fnHeightsCard

/-- THE TIED CARD OF 'laws.FnExactVerify'. -/
def fnExactVerifyCard : Claim7 := { stood := { row := fnExactVerifyRow, standIns := [], harness := (true, "94ea7ba6540956d93e23a12303e1e833c378b00e9b75ef11133e50ace0babc5a"), looks := false }, kinds := [], alts := [], laidByText := true, laidKinds := [.data], laidTests := true, laidLooks := .later }
def FnExactVerifyCardSaid : Prop := Claim7.holds Tryd.pinned (.plain (OpenSpec.ofChange fnExactVerifySpec)) fnExactVerifyCard

/-- THE TIED CARD OF 'laws.FnExactHeights'. -/
def fnExactHeightsCard : Claim7 := { stood := { row := fnExactHeightsRow, standIns := [], harness := (true, "94ea7ba6540956d93e23a12303e1e833c378b00e9b75ef11133e50ace0babc5a"), looks := false }, kinds := [], alts := [], laidByText := true, laidKinds := [.data], laidTests := true, laidLooks := .later }
def FnExactHeightsCardSaid : Prop := Claim7.holds Tryd.pinned (.plain (OpenSpec.ofChange fnExactHeightsSpec)) fnExactHeightsCard

/-- THE TIED CARD OF 'laws.FnExactHeaders'. -/
def fnExactHeadersCard : Claim7 := { stood := { row := fnExactHeadersRow, standIns := [], harness := (true, "94ea7ba6540956d93e23a12303e1e833c378b00e9b75ef11133e50ace0babc5a"), looks := false }, kinds := [], alts := [], laidByText := true, laidKinds := [.data], laidTests := true, laidLooks := .later }
def FnExactHeadersCardSaid : Prop := Claim7.holds Tryd.pinned (.plain (OpenSpec.ofChange fnExactHeadersSpec)) fnExactHeadersCard

/-- THE SECOND FORM's CARD OF 'laws.FnHeights'. -/
def fnHeightsUptoCard : Claim7 := { stood := { row := fnHeightsUptoRow, standIns := [], harness := (true, "94ea7ba6540956d93e23a12303e1e833c378b00e9b75ef11133e50ace0babc5a"), looks := false }, kinds := [], alts := [], laidByText := true, laidKinds := [.data], laidTests := true, laidLooks := .later }
def FnHeightsUptoCardSaid : Prop := Claim7.holds Tryd.pinned (.plain (OpenSpec.upto fnHeightsSpec)) fnHeightsUptoCard

/-- THE SECOND FORM's CARD OF 'laws.FnExactVerify'. -/
def fnExactVerifyUptoCard : Claim7 := { stood := { row := fnExactVerifyUptoRow, standIns := [], harness := (true, "94ea7ba6540956d93e23a12303e1e833c378b00e9b75ef11133e50ace0babc5a"), looks := false }, kinds := [], alts := [], laidByText := true, laidKinds := [.data], laidTests := true, laidLooks := .later }
def FnExactVerifyUptoCardSaid : Prop := Claim7.holds Tryd.pinned (.plain (OpenSpec.upto fnExactVerifySpec)) fnExactVerifyUptoCard

/-- THE SECOND FORM's CARD OF 'laws.FnExactHeights'. -/
def fnExactHeightsUptoCard : Claim7 := { stood := { row := fnExactHeightsUptoRow, standIns := [], harness := (true, "94ea7ba6540956d93e23a12303e1e833c378b00e9b75ef11133e50ace0babc5a"), looks := false }, kinds := [], alts := [], laidByText := true, laidKinds := [.data], laidTests := true, laidLooks := .later }
def FnExactHeightsUptoCardSaid : Prop := Claim7.holds Tryd.pinned (.plain (OpenSpec.upto fnExactHeightsSpec)) fnExactHeightsUptoCard

/-- THE SECOND FORM's CARD OF 'laws.FnExactHeaders'. -/
def fnExactHeadersUptoCard : Claim7 := { stood := { row := fnExactHeadersUptoRow, standIns := [], harness := (true, "94ea7ba6540956d93e23a12303e1e833c378b00e9b75ef11133e50ace0babc5a"), looks := false }, kinds := [], alts := [], laidByText := true, laidKinds := [.data], laidTests := true, laidLooks := .later }
def FnExactHeadersUptoCardSaid : Prop := Claim7.holds Tryd.pinned (.plain (OpenSpec.upto fnExactHeadersSpec)) fnExactHeadersUptoCard
end Rows
end Go.Proofs.YtpgcmfomlhfjdaaDoor
