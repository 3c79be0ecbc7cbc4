/-
  DERIVED. GIVEN WITH THE SEED: THE CARDS: each row of YtgjfjobglhekbaaDoorRows.lean that lists a variable, with what it lists TIED to the program's text (the seventh form; the later family's looks); each row that meets fmt, with fmt's text TOLD by the authors' own Lean function (tested against real Go, not proved from fmt's source: count such statements apart). THE CARD IS WHAT COUNTS. Prove the row's statement (the work); the ties are given (YtgjfjobglhekbaaDoorTie.lean); close each card by the builder's one call (the guide's Derived/Test/ToyasCard.lean, 'card_holds'). Laid BY PROGRAM, IN A SANDBOX (cutbox-door.mjs). By AI agents, Wed Nov 11 2026. No macro, syntax, notation, axiom, sorry.
-/
import Derived.Test.YtgjfjobglhekbaaDoorRows
import GoSem.ClaimSeven
namespace Go.Proofs.YtgjfjobglhekbaaDoor
namespace Rows

/-- THE TIED CARD OF 'laws.FnExactTakeBatch'. -/
def fnExactTakeBatchCard : Claim7 := { stood := { row := fnExactTakeBatchRow, standIns := [], harness := (true, "9710732c9d77d156a5a341b92bf85c575df2e604cc04eda3381d8846e4fb0b5e"), looks := false }, kinds := [], alts := [], laidByText := true, laidKinds := [.data], laidTests := true, laidLooks := .later }
def FnExactTakeBatchCardSaid : Prop := Claim7.holds Tryd.pinned (.plain (OpenSpec.ofChange fnExactTakeBatchSpec)) fnExactTakeBatchCard

/-- THE TIED CARD OF 'laws.FnExactReadLog'. -/
def fnExactReadLogCard : Claim7 := { stood := { row := fnExactReadLogRow, standIns := [], harness := (true, "9710732c9d77d156a5a341b92bf85c575df2e604cc04eda3381d8846e4fb0b5e"), looks := false }, kinds := [], alts := [], laidByText := true, laidKinds := [.data], laidTests := true, laidLooks := .later }
def FnExactReadLogCardSaid : Prop := Claim7.holds Tryd.pinned (.plain (OpenSpec.ofChange fnExactReadLogSpec)) fnExactReadLogCard

/-- THE SECOND FORM's CARD OF 'laws.FnExactTakeBatch'. -/
def fnExactTakeBatchUptoCard : Claim7 := { stood := { row := fnExactTakeBatchUptoRow, standIns := [], harness := (true, "9710732c9d77d156a5a341b92bf85c575df2e604cc04eda3381d8846e4fb0b5e"), looks := false }, kinds := [], alts := [], laidByText := true, laidKinds := [.data], laidTests := true, laidLooks := .later }
def FnExactTakeBatchUptoCardSaid : Prop := Claim7.holds Tryd.pinned (.plain (OpenSpec.upto fnExactTakeBatchSpec)) fnExactTakeBatchUptoCard

/-- THE SECOND FORM's CARD OF 'laws.FnExactReadLog'. -/
def fnExactReadLogUptoCard : Claim7 := { stood := { row := fnExactReadLogUptoRow, standIns := [], harness := (true, "9710732c9d77d156a5a341b92bf85c575df2e604cc04eda3381d8846e4fb0b5e"), looks := false }, kinds := [], alts := [], laidByText := true, laidKinds := [.data], laidTests := true, laidLooks := .later }
def FnExactReadLogUptoCardSaid : Prop := Claim7.holds Tryd.pinned (.plain (OpenSpec.upto fnExactReadLogSpec)) fnExactReadLogUptoCard
end Rows
end Go.Proofs.YtgjfjobglhekbaaDoor
