/-
  DERIVED. GIVEN WITH THE SEED: THE CARDS: each row of YteklkdnkfgfdiaaDoorRows.lean that lists a variable, with what it lists TIED to the program's text (the seventh form; the later family's looks); each row that meets fmt, with fmt's text TOLD by the authors' own Lean function (tested against real Go, not proved from fmt's source: count such statements apart). THE CARD IS WHAT COUNTS. Prove the row's statement (the work); the ties are given (YteklkdnkfgfdiaaDoorTie.lean); close each card by the builder's one call (the guide's Derived/Test/ToyasCard.lean, 'card_holds'). Laid BY PROGRAM, IN A SANDBOX (cutbox-door.mjs). By AI agents, Wed Nov 11 2026. No macro, syntax, notation, axiom, sorry.
-/
import Derived.Test.YteklkdnkfgfdiaaDoorRows
import GoSem.ClaimSeven
namespace Go.Proofs.YteklkdnkfgfdiaaDoor
namespace Rows

/-- THE TIED CARD OF 'laws.FnExactWriteBatch'. -/
def fnExactWriteBatchCard : Claim7 := { stood := { row := fnExactWriteBatchRow, standIns := [], harness := (true, "baae41cd8082f13cf2f10924f5ebe140feeeec1c266697d920b60f51edad5bb9"), looks := false }, kinds := [], alts := [], laidByText := true, laidKinds := [.data], laidTests := true, laidLooks := .later }
def FnExactWriteBatchCardSaid : Prop := Claim7.holds Tryd.pinned (.plain (OpenSpec.ofChange fnExactWriteBatchSpec)) fnExactWriteBatchCard

/-- THE SECOND FORM's CARD OF 'laws.FnExactWriteBatch'. -/
def fnExactWriteBatchUptoCard : Claim7 := { stood := { row := fnExactWriteBatchUptoRow, standIns := [], harness := (true, "baae41cd8082f13cf2f10924f5ebe140feeeec1c266697d920b60f51edad5bb9"), looks := false }, kinds := [], alts := [], laidByText := true, laidKinds := [.data], laidTests := true, laidLooks := .later }
def FnExactWriteBatchUptoCardSaid : Prop := Claim7.holds Tryd.pinned (.plain (OpenSpec.upto fnExactWriteBatchSpec)) fnExactWriteBatchUptoCard
end Rows
end Go.Proofs.YteklkdnkfgfdiaaDoor
