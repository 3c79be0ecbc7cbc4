/-
  DERIVED. GIVEN WITH THE SEED: THE CARDS: each row of YtiabgomeogcpnaaDoorRows.lean that lists a variable, with what it lists TIED to the program's text (the seventh form; the later family's looks); each row that meets fmt, with fmt's text TOLD by the authors' own Lean function (tested against real Go, not proved from fmt's source: count such statements apart). THE CARD IS WHAT COUNTS. Prove the row's statement (the work); the ties are given (YtiabgomeogcpnaaDoorTie.lean); close each card by the builder's one call (the guide's Derived/Test/ToyasCard.lean, 'card_holds'). Laid BY PROGRAM, IN A SANDBOX (cutbox-door.mjs). By AI agents, Wed Nov 11 2026. No macro, syntax, notation, axiom, sorry.
-/
import Derived.Test.YtiabgomeogcpnaaDoorRows
import GoSem.ClaimSeven
namespace Go.Proofs.YtiabgomeogcpnaaDoor
namespace Rows

/-- THE TIED CARD OF 'laws.FnPasts'. -/
def fnPastsCard : Claim7 := { stood := { row := fnPastsRow, standIns := [], harness := (true, "d365ac3bd21fccae65d9fa9338e5c110c561dbc50bc6b18ed29738090a24853b"), looks := false }, kinds := [], alts := [], laidByText := true, laidKinds := [.data, .data], laidTests := true, laidLooks := .later }
def FnPastsCardSaid : Prop := Claim7.holds Tryd.pinned (.plain (OpenSpec.ofChange fnPastsSpec)) fnPastsCard

/-- THE SECOND FORM's CARD OF 'laws.FnPasts'. -/
def fnPastsUptoCard : Claim7 := { stood := { row := fnPastsUptoRow, standIns := [], harness := (true, "d365ac3bd21fccae65d9fa9338e5c110c561dbc50bc6b18ed29738090a24853b"), looks := false }, kinds := [], alts := [], laidByText := true, laidKinds := [.data, .data], laidTests := true, laidLooks := .later }
def FnPastsUptoCardSaid : Prop := Claim7.holds Tryd.pinned (.plain (OpenSpec.upto fnPastsSpec)) fnPastsUptoCard
end Rows
end Go.Proofs.YtiabgomeogcpnaaDoor
