/-
  DERIVED. GIVEN WITH THE SEED: THE CARDS: each row of YtjfmmnnidlgenaaDoorRows.lean that lists a variable, with what it lists TIED to the program's text (the seventh form; the later family's looks); each row that meets fmt, with fmt's text TOLD by the authors' own Lean function (tested against real Go, not proved from fmt's source: count such statements apart). THE CARD IS WHAT COUNTS. Prove the row's statement (the work); the ties are given (YtjfmmnnidlgenaaDoorTie.lean); close each card by the builder's one call (the guide's Derived/Test/ToyasCard.lean, 'card_holds'). Laid BY PROGRAM, IN A SANDBOX (cutbox-door.mjs). By AI agents, Wed Nov 11 2026. No macro, syntax, notation, axiom, sorry.
-/
import Derived.Test.YtjfmmnnidlgenaaDoorRows
import GoSem.ClaimSeven
namespace Go.Proofs.YtjfmmnnidlgenaaDoor
namespace Rows

/-- THE TIED CARD OF 'laws.FnExactGoodStore'. -/
def fnExactGoodStoreCard : Claim7 := { stood := { row := fnExactGoodStoreRow, standIns := [], harness := (true, "e9f38fc8a29bd74d395612be0327bab2d9605880e90d91eff399595783f744f6"), looks := false }, kinds := [], alts := [], laidByText := true, laidKinds := [.data], laidTests := true, laidLooks := .later }
def FnExactGoodStoreCardSaid : Prop := Claim7.holds Tryd.pinned (.plain (OpenSpec.ofChange fnExactGoodStoreSpec)) fnExactGoodStoreCard

/-- THE TIED CARD OF 'laws.FnExactFindBatch'. -/
def fnExactFindBatchCard : Claim7 := { stood := { row := fnExactFindBatchRow, standIns := [], harness := (true, "e9f38fc8a29bd74d395612be0327bab2d9605880e90d91eff399595783f744f6"), looks := false }, kinds := [], alts := [], laidByText := true, laidKinds := [.data], laidTests := true, laidLooks := .later }
def FnExactFindBatchCardSaid : Prop := Claim7.holds Tryd.pinned (.plain (OpenSpec.ofChange fnExactFindBatchSpec)) fnExactFindBatchCard

/-- THE TIED CARD OF 'laws.FnExactAllBatches'. -/
def fnExactAllBatchesCard : Claim7 := { stood := { row := fnExactAllBatchesRow, standIns := [], harness := (true, "e9f38fc8a29bd74d395612be0327bab2d9605880e90d91eff399595783f744f6"), looks := false }, kinds := [], alts := [], laidByText := true, laidKinds := [.data], laidTests := true, laidLooks := .later }
def FnExactAllBatchesCardSaid : Prop := Claim7.holds Tryd.pinned (.plain (OpenSpec.ofChange fnExactAllBatchesSpec)) fnExactAllBatchesCard

/-- THE SECOND FORM's CARD OF 'laws.FnExactGoodStore'. -/
def fnExactGoodStoreUptoCard : Claim7 := { stood := { row := fnExactGoodStoreUptoRow, standIns := [], harness := (true, "e9f38fc8a29bd74d395612be0327bab2d9605880e90d91eff399595783f744f6"), looks := false }, kinds := [], alts := [], laidByText := true, laidKinds := [.data], laidTests := true, laidLooks := .later }
def FnExactGoodStoreUptoCardSaid : Prop := Claim7.holds Tryd.pinned (.plain (OpenSpec.upto fnExactGoodStoreSpec)) fnExactGoodStoreUptoCard

/-- THE SECOND FORM's CARD OF 'laws.FnExactFindBatch'. -/
def fnExactFindBatchUptoCard : Claim7 := { stood := { row := fnExactFindBatchUptoRow, standIns := [], harness := (true, "e9f38fc8a29bd74d395612be0327bab2d9605880e90d91eff399595783f744f6"), looks := false }, kinds := [], alts := [], laidByText := true, laidKinds := [.data], laidTests := true, laidLooks := .later }
def FnExactFindBatchUptoCardSaid : Prop := Claim7.holds Tryd.pinned (.plain (OpenSpec.upto fnExactFindBatchSpec)) fnExactFindBatchUptoCard

/-- THE SECOND FORM's CARD OF 'laws.FnExactAllBatches'. -/
def fnExactAllBatchesUptoCard : Claim7 := { stood := { row := fnExactAllBatchesUptoRow, standIns := [], harness := (true, "e9f38fc8a29bd74d395612be0327bab2d9605880e90d91eff399595783f744f6"), looks := false }, kinds := [], alts := [], laidByText := true, laidKinds := [.data], laidTests := true, laidLooks := .later }
def FnExactAllBatchesUptoCardSaid : Prop := Claim7.holds Tryd.pinned (.plain (OpenSpec.upto fnExactAllBatchesSpec)) fnExactAllBatchesUptoCard
end Rows
end Go.Proofs.YtjfmmnnidlgenaaDoor
