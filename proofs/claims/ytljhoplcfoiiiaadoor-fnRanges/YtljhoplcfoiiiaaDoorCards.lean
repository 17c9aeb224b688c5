/-
  DERIVED. GIVEN WITH THE SEED: THE CARDS: each row of YtljhoplcfoiiiaaDoorRows.lean that lists a variable, with what it lists TIED to the program's text (the seventh form; the later family's looks); each row that meets fmt, with fmt's text TOLD by the authors' own Lean function (tested against real Go, not proved from fmt's source: count such statements apart). THE CARD IS WHAT COUNTS. Prove the row's statement (the work); the ties are given (YtljhoplcfoiiiaaDoorTie.lean); close each card by the builder's one call (the guide's Derived/Test/ToyasCard.lean, 'card_holds'). Laid BY PROGRAM, IN A SANDBOX (cutbox-door.mjs). By AI agents, Wed Nov 11 2026. No macro, syntax, notation, axiom, sorry.
-/
import Derived.Test.YtljhoplcfoiiiaaDoorRows
import GoSem.ClaimSeven
namespace Go.Proofs.YtljhoplcfoiiiaaDoor
namespace Rows

/-- THE TIED CARD OF 'laws.FnRanges'. -/
def fnRangesCard : Claim7 := { stood := { row := fnRangesRow, standIns := [], harness := (true, "c1a45697f42f41794662f1397f28a23a9f8e2619763d3333b234a5be8fb3ac4d"), looks := false }, kinds := [], alts := [], laidByText := true, laidKinds := [.data], laidTests := true, laidLooks := .later }
def FnRangesCardSaid : Prop := Claim7.holds Tryd.pinned (.plain (OpenSpec.ofChange fnRangesSpec)) fnRangesCard

/-- THE TIED CARD OF 'laws.FnExactSlots'. -/
def fnExactSlotsCard : Claim7 := { stood := { row := fnExactSlotsRow, standIns := [], harness := (true, "c1a45697f42f41794662f1397f28a23a9f8e2619763d3333b234a5be8fb3ac4d"), looks := false }, kinds := [], alts := [], laidByText := true, laidKinds := [.data], laidTests := true, laidLooks := .later }
def FnExactSlotsCardSaid : Prop := Claim7.holds Tryd.pinned (.plain (OpenSpec.ofChange fnExactSlotsSpec)) fnExactSlotsCard

/-- THE TIED CARD OF 'laws.FnExactLive'. -/
def fnExactLiveCard : Claim7 := { stood := { row := fnExactLiveRow, standIns := [], harness := (true, "c1a45697f42f41794662f1397f28a23a9f8e2619763d3333b234a5be8fb3ac4d"), looks := false }, kinds := [], alts := [], laidByText := true, laidKinds := [.data], laidTests := true, laidLooks := .later }
def FnExactLiveCardSaid : Prop := Claim7.holds Tryd.pinned (.plain (OpenSpec.ofChange fnExactLiveSpec)) fnExactLiveCard

/-- THE SECOND FORM's CARD OF 'laws.FnRanges'. -/
def fnRangesUptoCard : Claim7 := { stood := { row := fnRangesUptoRow, standIns := [], harness := (true, "c1a45697f42f41794662f1397f28a23a9f8e2619763d3333b234a5be8fb3ac4d"), looks := false }, kinds := [], alts := [], laidByText := true, laidKinds := [.data], laidTests := true, laidLooks := .later }
def FnRangesUptoCardSaid : Prop := Claim7.holds Tryd.pinned (.plain (OpenSpec.upto fnRangesSpec)) fnRangesUptoCard

/-- THE SECOND FORM's CARD OF 'laws.FnExactSlots'. -/
def fnExactSlotsUptoCard : Claim7 := { stood := { row := fnExactSlotsUptoRow, standIns := [], harness := (true, "c1a45697f42f41794662f1397f28a23a9f8e2619763d3333b234a5be8fb3ac4d"), looks := false }, kinds := [], alts := [], laidByText := true, laidKinds := [.data], laidTests := true, laidLooks := .later }
def FnExactSlotsUptoCardSaid : Prop := Claim7.holds Tryd.pinned (.plain (OpenSpec.upto fnExactSlotsSpec)) fnExactSlotsUptoCard

/-- THE SECOND FORM's CARD OF 'laws.FnExactLive'. -/
def fnExactLiveUptoCard : Claim7 := { stood := { row := fnExactLiveUptoRow, standIns := [], harness := (true, "c1a45697f42f41794662f1397f28a23a9f8e2619763d3333b234a5be8fb3ac4d"), looks := false }, kinds := [], alts := [], laidByText := true, laidKinds := [.data], laidTests := true, laidLooks := .later }
def FnExactLiveUptoCardSaid : Prop := Claim7.holds Tryd.pinned (.plain (OpenSpec.upto fnExactLiveSpec)) fnExactLiveUptoCard
end Rows
end Go.Proofs.YtljhoplcfoiiiaaDoor
