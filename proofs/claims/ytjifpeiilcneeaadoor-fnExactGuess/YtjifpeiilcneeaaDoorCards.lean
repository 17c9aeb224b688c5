/-
  DERIVED. GIVEN WITH THE SEED: THE CARDS: each row of YtjifpeiilcneeaaDoorRows.lean that lists a variable, with what it lists TIED to the program's text (the seventh form; the later family's looks); each row that meets fmt, with fmt's text TOLD by the authors' own Lean function (tested against real Go, not proved from fmt's source: count such statements apart). THE CARD IS WHAT COUNTS. Prove the row's statement (the work); the ties are given (YtjifpeiilcneeaaDoorTie.lean); close each card by the builder's one call (the guide's Derived/Test/ToyasCard.lean, 'card_holds'). Laid BY PROGRAM, IN A SANDBOX (cutbox-door.mjs). By AI agents, Wed Nov 11 2026. No macro, syntax, notation, axiom, sorry.
-/
import Derived.Test.YtjifpeiilcneeaaDoorRows
import GoSem.ClaimSeven
namespace Go.Proofs.YtjifpeiilcneeaaDoor
namespace Rows

/-- THE TIED CARD OF 'laws.FnExactSeenRight'. -/
def fnExactSeenRightCard : Claim7 := { stood := { row := fnExactSeenRightRow, standIns := [], harness := (true, "0e7dccdcafa862c44d97d1450ff4b21684a25633e94ae59822e3be391acd843c"), looks := false }, kinds := [], alts := [], laidByText := true, laidKinds := [.data], laidTests := true, laidLooks := .later }
def FnExactSeenRightCardSaid : Prop := Claim7.holds Tryd.pinned (.plain (OpenSpec.ofChange fnExactSeenRightSpec)) fnExactSeenRightCard

/-- THE TIED CARD OF 'laws.FnExactGuess'. -/
def fnExactGuessCard : Claim7 := { stood := { row := fnExactGuessRow, standIns := [], harness := (true, "0e7dccdcafa862c44d97d1450ff4b21684a25633e94ae59822e3be391acd843c"), looks := false }, kinds := [], alts := [], laidByText := true, laidKinds := [.data], laidTests := true, laidLooks := .later }
def FnExactGuessCardSaid : Prop := Claim7.holds Tryd.pinned (.plain (OpenSpec.ofChange fnExactGuessSpec)) fnExactGuessCard

/-- THE SECOND FORM's CARD OF 'laws.FnExactSeenRight'. -/
def fnExactSeenRightUptoCard : Claim7 := { stood := { row := fnExactSeenRightUptoRow, standIns := [], harness := (true, "0e7dccdcafa862c44d97d1450ff4b21684a25633e94ae59822e3be391acd843c"), looks := false }, kinds := [], alts := [], laidByText := true, laidKinds := [.data], laidTests := true, laidLooks := .later }
def FnExactSeenRightUptoCardSaid : Prop := Claim7.holds Tryd.pinned (.plain (OpenSpec.upto fnExactSeenRightSpec)) fnExactSeenRightUptoCard

/-- THE SECOND FORM's CARD OF 'laws.FnExactGuess'. -/
def fnExactGuessUptoCard : Claim7 := { stood := { row := fnExactGuessUptoRow, standIns := [], harness := (true, "0e7dccdcafa862c44d97d1450ff4b21684a25633e94ae59822e3be391acd843c"), looks := false }, kinds := [], alts := [], laidByText := true, laidKinds := [.data], laidTests := true, laidLooks := .later }
def FnExactGuessUptoCardSaid : Prop := Claim7.holds Tryd.pinned (.plain (OpenSpec.upto fnExactGuessSpec)) fnExactGuessUptoCard
end Rows
end Go.Proofs.YtjifpeiilcneeaaDoor
