/-
  DERIVED. GIVEN WITH THE SEED: THE CARDS: each row of YtdibddkhjefmlaaDoorRows.lean that lists a variable, with what it lists TIED to the program's text (the seventh form; the later family's looks); each row that meets fmt, with fmt's text TOLD by the authors' own Lean function (tested against real Go, not proved from fmt's source: count such statements apart). THE CARD IS WHAT COUNTS. Prove the row's statement (the work); the ties are given (YtdibddkhjefmlaaDoorTie.lean); close each card by the builder's one call (the guide's Derived/Test/ToyasCard.lean, 'card_holds'). Laid BY PROGRAM, IN A SANDBOX (cutbox-door.mjs). By AI agents, Wed Nov 11 2026. No macro, syntax, notation, axiom, sorry.
-/
import Derived.Test.YtdibddkhjefmlaaDoorRows
import GoSem.ClaimSeven
namespace Go.Proofs.YtdibddkhjefmlaaDoor
namespace Rows

/-- THE TIED CARD OF 'laws.FnCoteries'. -/
def fnCoteriesCard : Claim7 := { stood := { row := fnCoteriesRow, standIns := [], harness := (true, "fa43b08411dd0909282f50d8363a494363cc9cc3135d72d94940aebdc8b08d4c"), looks := false }, kinds := [], alts := [], laidByText := true, laidKinds := [.data, .data], laidTests := true, laidLooks := .later }
def FnCoteriesCardSaid : Prop := Claim7.holds Tryd.pinned (.plain (OpenSpec.ofChange fnCoteriesSpec)) fnCoteriesCard

/-- THE SECOND FORM's CARD OF 'laws.FnCoteries'. -/
def fnCoteriesUptoCard : Claim7 := { stood := { row := fnCoteriesUptoRow, standIns := [], harness := (true, "fa43b08411dd0909282f50d8363a494363cc9cc3135d72d94940aebdc8b08d4c"), looks := false }, kinds := [], alts := [], laidByText := true, laidKinds := [.data, .data], laidTests := true, laidLooks := .later }
def FnCoteriesUptoCardSaid : Prop := Claim7.holds Tryd.pinned (.plain (OpenSpec.upto fnCoteriesSpec)) fnCoteriesUptoCard
end Rows
end Go.Proofs.YtdibddkhjefmlaaDoor
