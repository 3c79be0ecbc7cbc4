/-
  DERIVED. GIVEN WITH THE SEED: THE CARDS: each row of YtopndglgbollfaaDoorRows.lean that lists a variable, with what it lists TIED to the program's text (the seventh form; the later family's looks); each row that meets fmt, with fmt's text TOLD by the authors' own Lean function (tested against real Go, not proved from fmt's source: count such statements apart). THE CARD IS WHAT COUNTS. Prove the row's statement (the work); the ties are given (YtopndglgbollfaaDoorTie.lean); close each card by the builder's one call (the guide's Derived/Test/ToyasCard.lean, 'card_holds'). Laid BY PROGRAM, IN A SANDBOX (cutbox-door.mjs). By AI agents, Wed Nov 11 2026. No macro, syntax, notation, axiom, sorry.
-/
import Derived.Test.YtopndglgbollfaaDoorRows
import GoSem.ClaimSeven
namespace Go.Proofs.YtopndglgbollfaaDoor
namespace Rows

/-- THE TIED CARD OF 'laws.FnExactRecoverFile'. -/
def fnExactRecoverFileCard : Claim7 := { stood := { row := fnExactRecoverFileRow, standIns := [], harness := (true, "fd7832ac4fd21cb2907d76f46fc2b20b5282cc5fce8125c3f8aea6813d42ae42"), looks := false }, kinds := [], alts := [], laidByText := true, laidKinds := [.data], laidTests := true, laidLooks := .later }
def FnExactRecoverFileCardSaid : Prop := Claim7.holds Tryd.pinned (.plain (OpenSpec.ofChange fnExactRecoverFileSpec)) fnExactRecoverFileCard

/-- THE TIED CARD OF 'laws.FnExactSurvivesIn'. -/
def fnExactSurvivesInCard : Claim7 := { stood := { row := fnExactSurvivesInRow, standIns := [], harness := (true, "fd7832ac4fd21cb2907d76f46fc2b20b5282cc5fce8125c3f8aea6813d42ae42"), looks := false }, kinds := [], alts := [], laidByText := true, laidKinds := [.data], laidTests := true, laidLooks := .later }
def FnExactSurvivesInCardSaid : Prop := Claim7.holds Tryd.pinned (.plain (OpenSpec.ofChange fnExactSurvivesInSpec)) fnExactSurvivesInCard

/-- THE SECOND FORM's CARD OF 'laws.FnExactRecoverFile'. -/
def fnExactRecoverFileUptoCard : Claim7 := { stood := { row := fnExactRecoverFileUptoRow, standIns := [], harness := (true, "fd7832ac4fd21cb2907d76f46fc2b20b5282cc5fce8125c3f8aea6813d42ae42"), looks := false }, kinds := [], alts := [], laidByText := true, laidKinds := [.data], laidTests := true, laidLooks := .later }
def FnExactRecoverFileUptoCardSaid : Prop := Claim7.holds Tryd.pinned (.plain (OpenSpec.upto fnExactRecoverFileSpec)) fnExactRecoverFileUptoCard

/-- THE SECOND FORM's CARD OF 'laws.FnExactSurvivesIn'. -/
def fnExactSurvivesInUptoCard : Claim7 := { stood := { row := fnExactSurvivesInUptoRow, standIns := [], harness := (true, "fd7832ac4fd21cb2907d76f46fc2b20b5282cc5fce8125c3f8aea6813d42ae42"), looks := false }, kinds := [], alts := [], laidByText := true, laidKinds := [.data], laidTests := true, laidLooks := .later }
def FnExactSurvivesInUptoCardSaid : Prop := Claim7.holds Tryd.pinned (.plain (OpenSpec.upto fnExactSurvivesInSpec)) fnExactSurvivesInUptoCard
end Rows
end Go.Proofs.YtopndglgbollfaaDoor
