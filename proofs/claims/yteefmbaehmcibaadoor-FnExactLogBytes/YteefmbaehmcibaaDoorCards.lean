/-
  DERIVED. GIVEN WITH THE SEED: THE CARDS: each row of YteefmbaehmcibaaDoorRows.lean that lists a variable, with what it lists TIED to the program's text (the seventh form; the later family's looks); each row that meets fmt, with fmt's text TOLD by the authors' own Lean function (tested against real Go, not proved from fmt's source: count such statements apart). THE CARD IS WHAT COUNTS. Prove the row's statement (the work); the ties are given (YteefmbaehmcibaaDoorTie.lean); close each card by the builder's one call (the guide's Derived/Test/ToyasCard.lean, 'card_holds'). Laid BY PROGRAM, IN A SANDBOX (cutbox-door.mjs). By AI agents, Wed Nov 11 2026. No macro, syntax, notation, axiom, sorry.
-/
import Derived.Test.YteefmbaehmcibaaDoorRows
import GoSem.ClaimSeven
namespace Go.Proofs.YteefmbaehmcibaaDoor
namespace Rows

/-- THE TIED CARD OF 'laws.FnExactBatchBytes'. -/
def fnExactBatchBytesCard : Claim7 := { stood := { row := fnExactBatchBytesRow, standIns := [], harness := (true, "dd19d98ab26ba2a455a5d45f1fda20ca807b01be3363ecc95f53c0eeba4f5fc6"), looks := false }, kinds := [], alts := [], laidByText := true, laidKinds := [.data], laidTests := true, laidLooks := .later }
def FnExactBatchBytesCardSaid : Prop := Claim7.holds Tryd.pinned (.plain (OpenSpec.ofChange fnExactBatchBytesSpec)) fnExactBatchBytesCard

/-- THE TIED CARD OF 'laws.FnExactLogBytes'. -/
def fnExactLogBytesCard : Claim7 := { stood := { row := fnExactLogBytesRow, standIns := [], harness := (true, "dd19d98ab26ba2a455a5d45f1fda20ca807b01be3363ecc95f53c0eeba4f5fc6"), looks := false }, kinds := [], alts := [], laidByText := true, laidKinds := [.data], laidTests := true, laidLooks := .later }
def FnExactLogBytesCardSaid : Prop := Claim7.holds Tryd.pinned (.plain (OpenSpec.ofChange fnExactLogBytesSpec)) fnExactLogBytesCard

/-- THE SECOND FORM's CARD OF 'laws.FnExactBatchBytes'. -/
def fnExactBatchBytesUptoCard : Claim7 := { stood := { row := fnExactBatchBytesUptoRow, standIns := [], harness := (true, "dd19d98ab26ba2a455a5d45f1fda20ca807b01be3363ecc95f53c0eeba4f5fc6"), looks := false }, kinds := [], alts := [], laidByText := true, laidKinds := [.data], laidTests := true, laidLooks := .later }
def FnExactBatchBytesUptoCardSaid : Prop := Claim7.holds Tryd.pinned (.plain (OpenSpec.upto fnExactBatchBytesSpec)) fnExactBatchBytesUptoCard

/-- THE SECOND FORM's CARD OF 'laws.FnExactLogBytes'. -/
def fnExactLogBytesUptoCard : Claim7 := { stood := { row := fnExactLogBytesUptoRow, standIns := [], harness := (true, "dd19d98ab26ba2a455a5d45f1fda20ca807b01be3363ecc95f53c0eeba4f5fc6"), looks := false }, kinds := [], alts := [], laidByText := true, laidKinds := [.data], laidTests := true, laidLooks := .later }
def FnExactLogBytesUptoCardSaid : Prop := Claim7.holds Tryd.pinned (.plain (OpenSpec.upto fnExactLogBytesSpec)) fnExactLogBytesUptoCard
end Rows
end Go.Proofs.YteefmbaehmcibaaDoor
