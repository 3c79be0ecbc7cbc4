/-
  DERIVED. GIVEN WITH THE SEED: THE CARDS: each row of YtomigekigcklfaaDoorRows.lean that lists a variable, with what it lists TIED to the program's text (the seventh form; the later family's looks); each row that meets fmt, with fmt's text TOLD by the authors' own Lean function (tested against real Go, not proved from fmt's source: count such statements apart). THE CARD IS WHAT COUNTS. Prove the row's statement (the work); the ties are given (YtomigekigcklfaaDoorTie.lean); close each card by the builder's one call (the guide's Derived/Test/ToyasCard.lean, 'card_holds'). Laid BY PROGRAM, IN A SANDBOX (cutbox-door.mjs). By AI agents, Wed Nov 11 2026. No macro, syntax, notation, axiom, sorry.
-/
import Derived.Test.YtomigekigcklfaaDoorRows
import GoSem.ClaimSeven
namespace Go.Proofs.YtomigekigcklfaaDoor
namespace Rows

/-- THE TIED CARD OF 'laws.FnExactAppendBatch'. -/
def fnExactAppendBatchCard : Claim7 := { stood := { row := fnExactAppendBatchRow, standIns := [], harness := (true, "73e8f2c657652c4c2adbd13e1a55c34875cb9c1050755275ce4c0631e0edf3bd"), looks := false }, kinds := [], alts := [], laidByText := true, laidKinds := [.data], laidTests := true, laidLooks := .later }
def FnExactAppendBatchCardSaid : Prop := Claim7.holds Tryd.pinned (.plain (OpenSpec.ofChange fnExactAppendBatchSpec)) fnExactAppendBatchCard

/-- THE TIED CARD OF 'laws.FnExactTruncateTo'. -/
def fnExactTruncateToCard : Claim7 := { stood := { row := fnExactTruncateToRow, standIns := [], harness := (true, "73e8f2c657652c4c2adbd13e1a55c34875cb9c1050755275ce4c0631e0edf3bd"), looks := false }, kinds := [], alts := [], laidByText := true, laidKinds := [.data], laidTests := true, laidLooks := .later }
def FnExactTruncateToCardSaid : Prop := Claim7.holds Tryd.pinned (.plain (OpenSpec.ofChange fnExactTruncateToSpec)) fnExactTruncateToCard

/-- THE TIED CARD OF 'laws.FnExactDropBefore'. -/
def fnExactDropBeforeCard : Claim7 := { stood := { row := fnExactDropBeforeRow, standIns := [], harness := (true, "73e8f2c657652c4c2adbd13e1a55c34875cb9c1050755275ce4c0631e0edf3bd"), looks := false }, kinds := [], alts := [], laidByText := true, laidKinds := [.data], laidTests := true, laidLooks := .later }
def FnExactDropBeforeCardSaid : Prop := Claim7.holds Tryd.pinned (.plain (OpenSpec.ofChange fnExactDropBeforeSpec)) fnExactDropBeforeCard

/-- THE SECOND FORM's CARD OF 'laws.FnExactAppendBatch'. -/
def fnExactAppendBatchUptoCard : Claim7 := { stood := { row := fnExactAppendBatchUptoRow, standIns := [], harness := (true, "73e8f2c657652c4c2adbd13e1a55c34875cb9c1050755275ce4c0631e0edf3bd"), looks := false }, kinds := [], alts := [], laidByText := true, laidKinds := [.data], laidTests := true, laidLooks := .later }
def FnExactAppendBatchUptoCardSaid : Prop := Claim7.holds Tryd.pinned (.plain (OpenSpec.upto fnExactAppendBatchSpec)) fnExactAppendBatchUptoCard

/-- THE SECOND FORM's CARD OF 'laws.FnExactTruncateTo'. -/
def fnExactTruncateToUptoCard : Claim7 := { stood := { row := fnExactTruncateToUptoRow, standIns := [], harness := (true, "73e8f2c657652c4c2adbd13e1a55c34875cb9c1050755275ce4c0631e0edf3bd"), looks := false }, kinds := [], alts := [], laidByText := true, laidKinds := [.data], laidTests := true, laidLooks := .later }
def FnExactTruncateToUptoCardSaid : Prop := Claim7.holds Tryd.pinned (.plain (OpenSpec.upto fnExactTruncateToSpec)) fnExactTruncateToUptoCard

/-- THE SECOND FORM's CARD OF 'laws.FnExactDropBefore'. -/
def fnExactDropBeforeUptoCard : Claim7 := { stood := { row := fnExactDropBeforeUptoRow, standIns := [], harness := (true, "73e8f2c657652c4c2adbd13e1a55c34875cb9c1050755275ce4c0631e0edf3bd"), looks := false }, kinds := [], alts := [], laidByText := true, laidKinds := [.data], laidTests := true, laidLooks := .later }
def FnExactDropBeforeUptoCardSaid : Prop := Claim7.holds Tryd.pinned (.plain (OpenSpec.upto fnExactDropBeforeSpec)) fnExactDropBeforeUptoCard
end Rows
end Go.Proofs.YtomigekigcklfaaDoor
