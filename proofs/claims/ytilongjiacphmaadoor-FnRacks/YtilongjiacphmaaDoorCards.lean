/-
  DERIVED. GIVEN WITH THE SEED: THE CARDS: each row of YtilongjiacphmaaDoorRows.lean that lists a variable, with what it lists TIED to the program's text (the seventh form; the later family's looks); each row that meets fmt, with fmt's text TOLD by the authors' own Lean function (tested against real Go, not proved from fmt's source: count such statements apart). THE CARD IS WHAT COUNTS. Prove the row's statement (the work); the ties are given (YtilongjiacphmaaDoorTie.lean); close each card by the builder's one call (the guide's Derived/Test/ToyasCard.lean, 'card_holds'). Laid BY PROGRAM, IN A SANDBOX (cutbox-door.mjs). By AI agents, Wed Nov 11 2026. No macro, syntax, notation, axiom, sorry.
-/
import Derived.Test.YtilongjiacphmaaDoorRows
import GoSem.ClaimSeven
namespace Go.Proofs.YtilongjiacphmaaDoor
namespace Rows

/-- THE TIED CARD OF 'laws.FnRacks'. -/
def fnRacksCard : Claim7 := { stood := { row := fnRacksRow, standIns := [], harness := (true, "c3312b99095aa43ac6c969e940ecf367cec3c4c22b1fdb19b1619c7630642776"), looks := false }, kinds := [], alts := [], laidByText := true, laidKinds := [.data, .data], laidTests := true, laidLooks := .later }
def FnRacksCardSaid : Prop := Claim7.holds Tryd.pinned (.plain (OpenSpec.ofChange fnRacksSpec)) fnRacksCard

/-- THE SECOND FORM's CARD OF 'laws.FnRacks'. -/
def fnRacksUptoCard : Claim7 := { stood := { row := fnRacksUptoRow, standIns := [], harness := (true, "c3312b99095aa43ac6c969e940ecf367cec3c4c22b1fdb19b1619c7630642776"), looks := false }, kinds := [], alts := [], laidByText := true, laidKinds := [.data, .data], laidTests := true, laidLooks := .later }
def FnRacksUptoCardSaid : Prop := Claim7.holds Tryd.pinned (.plain (OpenSpec.upto fnRacksSpec)) fnRacksUptoCard
end Rows
end Go.Proofs.YtilongjiacphmaaDoor
