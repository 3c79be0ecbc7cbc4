/-
  DERIVED. GIVEN WITH THE SEED: THE CARDS: each row of YteffmkjnpoijlaaDoorRows.lean that lists a variable, with what it lists TIED to the program's text (the seventh form; the later family's looks); each row that meets fmt, with fmt's text TOLD by the authors' own Lean function (tested against real Go, not proved from fmt's source: count such statements apart). THE CARD IS WHAT COUNTS. Prove the row's statement (the work); the ties are given (YteffmkjnpoijlaaDoorTie.lean); close each card by the builder's one call (the guide's Derived/Test/ToyasCard.lean, 'card_holds'). Laid BY PROGRAM, IN A SANDBOX (cutbox-door.mjs). By AI agents, Wed Nov 11 2026. No macro, syntax, notation, axiom, sorry.
-/
import Derived.Test.YteffmkjnpoijlaaDoorRows
import GoSem.ClaimSeven
namespace Go.Proofs.YteffmkjnpoijlaaDoor
namespace Rows

/-- THE TIED CARD OF 'laws.FnExactReadFrom'. -/
def fnExactReadFromCard : Claim7 := { stood := { row := fnExactReadFromRow, standIns := [], harness := (true, "05107066c3e25a7ac7ac86e04cb34f26158091808b27d8c45ad10c05e7253538"), looks := false }, kinds := [], alts := [], laidByText := true, laidKinds := [.data], laidTests := true, laidLooks := .later }
def FnExactReadFromCardSaid : Prop := Claim7.holds Tryd.pinned (.plain (OpenSpec.ofChange fnExactReadFromSpec)) fnExactReadFromCard

/-- THE TIED CARD OF 'laws.FnExactSeekIn'. -/
def fnExactSeekInCard : Claim7 := { stood := { row := fnExactSeekInRow, standIns := [], harness := (true, "05107066c3e25a7ac7ac86e04cb34f26158091808b27d8c45ad10c05e7253538"), looks := false }, kinds := [], alts := [], laidByText := true, laidKinds := [.data], laidTests := true, laidLooks := .later }
def FnExactSeekInCardSaid : Prop := Claim7.holds Tryd.pinned (.plain (OpenSpec.ofChange fnExactSeekInSpec)) fnExactSeekInCard

/-- THE SECOND FORM's CARD OF 'laws.FnExactReadFrom'. -/
def fnExactReadFromUptoCard : Claim7 := { stood := { row := fnExactReadFromUptoRow, standIns := [], harness := (true, "05107066c3e25a7ac7ac86e04cb34f26158091808b27d8c45ad10c05e7253538"), looks := false }, kinds := [], alts := [], laidByText := true, laidKinds := [.data], laidTests := true, laidLooks := .later }
def FnExactReadFromUptoCardSaid : Prop := Claim7.holds Tryd.pinned (.plain (OpenSpec.upto fnExactReadFromSpec)) fnExactReadFromUptoCard

/-- THE SECOND FORM's CARD OF 'laws.FnExactSeekIn'. -/
def fnExactSeekInUptoCard : Claim7 := { stood := { row := fnExactSeekInUptoRow, standIns := [], harness := (true, "05107066c3e25a7ac7ac86e04cb34f26158091808b27d8c45ad10c05e7253538"), looks := false }, kinds := [], alts := [], laidByText := true, laidKinds := [.data], laidTests := true, laidLooks := .later }
def FnExactSeekInUptoCardSaid : Prop := Claim7.holds Tryd.pinned (.plain (OpenSpec.upto fnExactSeekInSpec)) fnExactSeekInUptoCard
end Rows
end Go.Proofs.YteffmkjnpoijlaaDoor
