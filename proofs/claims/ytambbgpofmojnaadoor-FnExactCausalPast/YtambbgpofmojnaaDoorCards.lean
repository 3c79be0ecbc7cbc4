/-
  DERIVED. GIVEN WITH THE SEED: THE CARDS: each row of YtambbgpofmojnaaDoorRows.lean that lists a variable, with what it lists TIED to the program's text (the seventh form; the later family's looks); each row that meets fmt, with fmt's text TOLD by the authors' own Lean function (tested against real Go, not proved from fmt's source: count such statements apart). THE CARD IS WHAT COUNTS. Prove the row's statement (the work); the ties are given (YtambbgpofmojnaaDoorTie.lean); close each card by the builder's one call (the guide's Derived/Test/ToyasCard.lean, 'card_holds'). Laid BY PROGRAM, IN A SANDBOX (cutbox-door.mjs). By AI agents, Wed Nov 11 2026. No macro, syntax, notation, axiom, sorry.
-/
import Derived.Test.YtambbgpofmojnaaDoorRows
import GoSem.ClaimSeven
namespace Go.Proofs.YtambbgpofmojnaaDoor
namespace Rows

/-- THE TIED CARD OF 'laws.FnExactCausalPast'. -/
def fnExactCausalPastCard : Claim7 := { stood := { row := fnExactCausalPastRow, standIns := [], harness := (true, "e7a638d60355739009c39a36a3c95ab25020846208aae31ad76c8486f8887240"), looks := false }, kinds := [], alts := [], laidByText := true, laidKinds := [.data, .data], laidTests := true, laidLooks := .later }
def FnExactCausalPastCardSaid : Prop := Claim7.holds Tryd.pinned (.plain (OpenSpec.ofChange fnExactCausalPastSpec)) fnExactCausalPastCard

/-- THE TIED CARD OF 'laws.FnExactConcurrent'. -/
def fnExactConcurrentCard : Claim7 := { stood := { row := fnExactConcurrentRow, standIns := [], harness := (true, "e7a638d60355739009c39a36a3c95ab25020846208aae31ad76c8486f8887240"), looks := false }, kinds := [], alts := [], laidByText := true, laidKinds := [.data, .data], laidTests := true, laidLooks := .later }
def FnExactConcurrentCardSaid : Prop := Claim7.holds Tryd.pinned (.plain (OpenSpec.ofChange fnExactConcurrentSpec)) fnExactConcurrentCard

/-- THE SECOND FORM's CARD OF 'laws.FnExactCausalPast'. -/
def fnExactCausalPastUptoCard : Claim7 := { stood := { row := fnExactCausalPastUptoRow, standIns := [], harness := (true, "e7a638d60355739009c39a36a3c95ab25020846208aae31ad76c8486f8887240"), looks := false }, kinds := [], alts := [], laidByText := true, laidKinds := [.data, .data], laidTests := true, laidLooks := .later }
def FnExactCausalPastUptoCardSaid : Prop := Claim7.holds Tryd.pinned (.plain (OpenSpec.upto fnExactCausalPastSpec)) fnExactCausalPastUptoCard

/-- THE SECOND FORM's CARD OF 'laws.FnExactConcurrent'. -/
def fnExactConcurrentUptoCard : Claim7 := { stood := { row := fnExactConcurrentUptoRow, standIns := [], harness := (true, "e7a638d60355739009c39a36a3c95ab25020846208aae31ad76c8486f8887240"), looks := false }, kinds := [], alts := [], laidByText := true, laidKinds := [.data, .data], laidTests := true, laidLooks := .later }
def FnExactConcurrentUptoCardSaid : Prop := Claim7.holds Tryd.pinned (.plain (OpenSpec.upto fnExactConcurrentSpec)) fnExactConcurrentUptoCard
end Rows
end Go.Proofs.YtambbgpofmojnaaDoor
