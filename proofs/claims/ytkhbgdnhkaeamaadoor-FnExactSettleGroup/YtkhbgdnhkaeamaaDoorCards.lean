/-
  DERIVED. GIVEN WITH THE SEED: THE CARDS: each row of YtkhbgdnhkaeamaaDoorRows.lean that lists a variable, with what it lists TIED to the program's text (the seventh form; the later family's looks); each row that meets fmt, with fmt's text TOLD by the authors' own Lean function (tested against real Go, not proved from fmt's source: count such statements apart). THE CARD IS WHAT COUNTS. Prove the row's statement (the work); the ties are given (YtkhbgdnhkaeamaaDoorTie.lean); close each card by the builder's one call (the guide's Derived/Test/ToyasCard.lean, 'card_holds'). Laid BY PROGRAM, IN A SANDBOX (cutbox-door.mjs). By AI agents, Wed Nov 11 2026. No macro, syntax, notation, axiom, sorry.
-/
import Derived.Test.YtkhbgdnhkaeamaaDoorRows
import GoSem.ClaimSeven
namespace Go.Proofs.YtkhbgdnhkaeamaaDoor
namespace Rows

/-- THE TIED CARD OF 'laws.FnExactNewGroup'. -/
def fnExactNewGroupCard : Claim7 := { stood := { row := fnExactNewGroupRow, standIns := [], harness := (true, "6a1ddebdfabb70a9d99d8574a7910b8a8fe1a029187e2d8165b42f572963fa1b"), looks := false }, kinds := [], alts := [], laidByText := true, laidKinds := [.data, .data], laidTests := true, laidLooks := .later }
def FnExactNewGroupCardSaid : Prop := Claim7.holds Tryd.pinned (.plain (OpenSpec.ofChange fnExactNewGroupSpec)) fnExactNewGroupCard

/-- THE TIED CARD OF 'laws.FnExactStepGroup'. -/
def fnExactStepGroupCard : Claim7 := { stood := { row := fnExactStepGroupRow, standIns := [], harness := (true, "6a1ddebdfabb70a9d99d8574a7910b8a8fe1a029187e2d8165b42f572963fa1b"), looks := false }, kinds := [], alts := [], laidByText := true, laidKinds := [.data, .data], laidTests := true, laidLooks := .later }
def FnExactStepGroupCardSaid : Prop := Claim7.holds Tryd.pinned (.plain (OpenSpec.ofChange fnExactStepGroupSpec)) fnExactStepGroupCard

/-- THE TIED CARD OF 'laws.FnExactPlayGroup'. -/
def fnExactPlayGroupCard : Claim7 := { stood := { row := fnExactPlayGroupRow, standIns := [], harness := (true, "6a1ddebdfabb70a9d99d8574a7910b8a8fe1a029187e2d8165b42f572963fa1b"), looks := false }, kinds := [], alts := [], laidByText := true, laidKinds := [.data, .data], laidTests := true, laidLooks := .later }
def FnExactPlayGroupCardSaid : Prop := Claim7.holds Tryd.pinned (.plain (OpenSpec.ofChange fnExactPlayGroupSpec)) fnExactPlayGroupCard

/-- THE TIED CARD OF 'laws.FnExactSettleGroup'. -/
def fnExactSettleGroupCard : Claim7 := { stood := { row := fnExactSettleGroupRow, standIns := [], harness := (true, "6a1ddebdfabb70a9d99d8574a7910b8a8fe1a029187e2d8165b42f572963fa1b"), looks := false }, kinds := [], alts := [], laidByText := true, laidKinds := [.data, .data], laidTests := true, laidLooks := .later }
def FnExactSettleGroupCardSaid : Prop := Claim7.holds Tryd.pinned (.plain (OpenSpec.ofChange fnExactSettleGroupSpec)) fnExactSettleGroupCard

/-- THE SECOND FORM's CARD OF 'laws.FnExactNewGroup'. -/
def fnExactNewGroupUptoCard : Claim7 := { stood := { row := fnExactNewGroupUptoRow, standIns := [], harness := (true, "6a1ddebdfabb70a9d99d8574a7910b8a8fe1a029187e2d8165b42f572963fa1b"), looks := false }, kinds := [], alts := [], laidByText := true, laidKinds := [.data, .data], laidTests := true, laidLooks := .later }
def FnExactNewGroupUptoCardSaid : Prop := Claim7.holds Tryd.pinned (.plain (OpenSpec.upto fnExactNewGroupSpec)) fnExactNewGroupUptoCard

/-- THE SECOND FORM's CARD OF 'laws.FnExactStepGroup'. -/
def fnExactStepGroupUptoCard : Claim7 := { stood := { row := fnExactStepGroupUptoRow, standIns := [], harness := (true, "6a1ddebdfabb70a9d99d8574a7910b8a8fe1a029187e2d8165b42f572963fa1b"), looks := false }, kinds := [], alts := [], laidByText := true, laidKinds := [.data, .data], laidTests := true, laidLooks := .later }
def FnExactStepGroupUptoCardSaid : Prop := Claim7.holds Tryd.pinned (.plain (OpenSpec.upto fnExactStepGroupSpec)) fnExactStepGroupUptoCard

/-- THE SECOND FORM's CARD OF 'laws.FnExactPlayGroup'. -/
def fnExactPlayGroupUptoCard : Claim7 := { stood := { row := fnExactPlayGroupUptoRow, standIns := [], harness := (true, "6a1ddebdfabb70a9d99d8574a7910b8a8fe1a029187e2d8165b42f572963fa1b"), looks := false }, kinds := [], alts := [], laidByText := true, laidKinds := [.data, .data], laidTests := true, laidLooks := .later }
def FnExactPlayGroupUptoCardSaid : Prop := Claim7.holds Tryd.pinned (.plain (OpenSpec.upto fnExactPlayGroupSpec)) fnExactPlayGroupUptoCard

/-- THE SECOND FORM's CARD OF 'laws.FnExactSettleGroup'. -/
def fnExactSettleGroupUptoCard : Claim7 := { stood := { row := fnExactSettleGroupUptoRow, standIns := [], harness := (true, "6a1ddebdfabb70a9d99d8574a7910b8a8fe1a029187e2d8165b42f572963fa1b"), looks := false }, kinds := [], alts := [], laidByText := true, laidKinds := [.data, .data], laidTests := true, laidLooks := .later }
def FnExactSettleGroupUptoCardSaid : Prop := Claim7.holds Tryd.pinned (.plain (OpenSpec.upto fnExactSettleGroupSpec)) fnExactSettleGroupUptoCard
end Rows
end Go.Proofs.YtkhbgdnhkaeamaaDoor
