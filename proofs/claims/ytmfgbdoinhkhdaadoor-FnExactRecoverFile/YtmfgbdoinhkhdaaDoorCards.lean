/-
  DERIVED. GIVEN WITH THE SEED: THE CARDS: each row of YtmfgbdoinhkhdaaDoorRows.lean that lists a variable, with what it lists TIED to the program's text (the seventh form; the later family's looks); each row that meets fmt, with fmt's text TOLD by the authors' own Lean function (tested against real Go, not proved from fmt's source: count such statements apart). THE CARD IS WHAT COUNTS. Prove the row's statement (the work); the ties are given (YtmfgbdoinhkhdaaDoorTie.lean); close each card by the builder's one call (the guide's Derived/Test/ToyasCard.lean, 'card_holds'). Laid BY PROGRAM, IN A SANDBOX (cutbox-door.mjs). By AI agents, Wed Nov 11 2026. No macro, syntax, notation, axiom, sorry.
-/
import Derived.Test.YtmfgbdoinhkhdaaDoorRows
import GoSem.ClaimSeven
namespace Go.Proofs.YtmfgbdoinhkhdaaDoor
namespace Rows

/-- THE TIED CARD OF 'laws.FnExactRecoverFile'. -/
def fnExactRecoverFileCard : Claim7 := { stood := { row := fnExactRecoverFileRow, standIns := [], harness := (true, "8fcc57fb91364ccac2d2df531c37e2b4e519929503259b54a76393065e8b65a2"), looks := false }, kinds := [], alts := [], laidByText := true, laidKinds := [.data], laidTests := true, laidLooks := .later }
def FnExactRecoverFileCardSaid : Prop := Claim7.holds Tryd.pinned (.plain (OpenSpec.ofChange fnExactRecoverFileSpec)) fnExactRecoverFileCard

/-- THE TIED CARD OF 'laws.FnExactWriteBatch'. -/
def fnExactWriteBatchCard : Claim7 := { stood := { row := fnExactWriteBatchRow, standIns := [], harness := (true, "8fcc57fb91364ccac2d2df531c37e2b4e519929503259b54a76393065e8b65a2"), looks := false }, kinds := [], alts := [], laidByText := true, laidKinds := [.data], laidTests := true, laidLooks := .later }
def FnExactWriteBatchCardSaid : Prop := Claim7.holds Tryd.pinned (.plain (OpenSpec.ofChange fnExactWriteBatchSpec)) fnExactWriteBatchCard

/-- THE TIED CARD OF 'laws.FnExactSurvivesIn'. -/
def fnExactSurvivesInCard : Claim7 := { stood := { row := fnExactSurvivesInRow, standIns := [], harness := (true, "8fcc57fb91364ccac2d2df531c37e2b4e519929503259b54a76393065e8b65a2"), looks := false }, kinds := [], alts := [], laidByText := true, laidKinds := [.data], laidTests := true, laidLooks := .later }
def FnExactSurvivesInCardSaid : Prop := Claim7.holds Tryd.pinned (.plain (OpenSpec.ofChange fnExactSurvivesInSpec)) fnExactSurvivesInCard

/-- THE SECOND FORM's CARD OF 'laws.FnExactRecoverFile'. -/
def fnExactRecoverFileUptoCard : Claim7 := { stood := { row := fnExactRecoverFileUptoRow, standIns := [], harness := (true, "8fcc57fb91364ccac2d2df531c37e2b4e519929503259b54a76393065e8b65a2"), looks := false }, kinds := [], alts := [], laidByText := true, laidKinds := [.data], laidTests := true, laidLooks := .later }
def FnExactRecoverFileUptoCardSaid : Prop := Claim7.holds Tryd.pinned (.plain (OpenSpec.upto fnExactRecoverFileSpec)) fnExactRecoverFileUptoCard

/-- THE SECOND FORM's CARD OF 'laws.FnExactWriteBatch'. -/
def fnExactWriteBatchUptoCard : Claim7 := { stood := { row := fnExactWriteBatchUptoRow, standIns := [], harness := (true, "8fcc57fb91364ccac2d2df531c37e2b4e519929503259b54a76393065e8b65a2"), looks := false }, kinds := [], alts := [], laidByText := true, laidKinds := [.data], laidTests := true, laidLooks := .later }
def FnExactWriteBatchUptoCardSaid : Prop := Claim7.holds Tryd.pinned (.plain (OpenSpec.upto fnExactWriteBatchSpec)) fnExactWriteBatchUptoCard

/-- THE SECOND FORM's CARD OF 'laws.FnExactSurvivesIn'. -/
def fnExactSurvivesInUptoCard : Claim7 := { stood := { row := fnExactSurvivesInUptoRow, standIns := [], harness := (true, "8fcc57fb91364ccac2d2df531c37e2b4e519929503259b54a76393065e8b65a2"), looks := false }, kinds := [], alts := [], laidByText := true, laidKinds := [.data], laidTests := true, laidLooks := .later }
def FnExactSurvivesInUptoCardSaid : Prop := Claim7.holds Tryd.pinned (.plain (OpenSpec.upto fnExactSurvivesInSpec)) fnExactSurvivesInUptoCard
end Rows
end Go.Proofs.YtmfgbdoinhkhdaaDoor
