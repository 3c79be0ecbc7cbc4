/-
  DERIVED. GIVEN WITH THE SEED: THE CARDS: each row of YtfehndedkffpfaaDoorRows.lean that lists a variable, with what it lists TIED to the program's text (the seventh form; the later family's looks); each row that meets fmt, with fmt's text TOLD by the authors' own Lean function (tested against real Go, not proved from fmt's source: count such statements apart). THE CARD IS WHAT COUNTS. Prove the row's statement (the work); the ties are given (YtfehndedkffpfaaDoorTie.lean); close each card by the builder's one call (the guide's Derived/Test/ToyasCard.lean, 'card_holds'). Laid BY PROGRAM, IN A SANDBOX (cutbox-door.mjs). By AI agents, Wed Nov 11 2026. No macro, syntax, notation, axiom, sorry.
-/
import Derived.Test.YtfehndedkffpfaaDoorRows
import GoSem.ClaimSeven
namespace Go.Proofs.YtfehndedkffpfaaDoor
namespace Rows

/-- THE TIED CARD OF 'laws.FnExactLiveBrokers'. -/
def fnExactLiveBrokersCard : Claim7 := { stood := { row := fnExactLiveBrokersRow, standIns := [], harness := (true, "51dd3aa59bc45309b12adcbe145dbc577d4a8a3329ef93837b42f4f62eff5686"), looks := false }, kinds := [], alts := [], laidByText := true, laidKinds := [.data, .data], laidTests := true, laidLooks := .later }
def FnExactLiveBrokersCardSaid : Prop := Claim7.holds Tryd.pinned (.plain (OpenSpec.ofChange fnExactLiveBrokersSpec)) fnExactLiveBrokersCard

/-- THE SECOND FORM's CARD OF 'laws.FnExactLiveBrokers'. -/
def fnExactLiveBrokersUptoCard : Claim7 := { stood := { row := fnExactLiveBrokersUptoRow, standIns := [], harness := (true, "51dd3aa59bc45309b12adcbe145dbc577d4a8a3329ef93837b42f4f62eff5686"), looks := false }, kinds := [], alts := [], laidByText := true, laidKinds := [.data, .data], laidTests := true, laidLooks := .later }
def FnExactLiveBrokersUptoCardSaid : Prop := Claim7.holds Tryd.pinned (.plain (OpenSpec.upto fnExactLiveBrokersSpec)) fnExactLiveBrokersUptoCard
end Rows
end Go.Proofs.YtfehndedkffpfaaDoor
