/-
  DERIVED. GIVEN WITH THE SEED: THE CARDS: each row of YteilfaiemefpcaaDoorRows.lean that lists a variable, with what it lists TIED to the program's text (the seventh form; the later family's looks); each row that meets fmt, with fmt's text TOLD by the authors' own Lean function (tested against real Go, not proved from fmt's source: count such statements apart). THE CARD IS WHAT COUNTS. Prove the row's statement (the work); the ties are given (YteilfaiemefpcaaDoorTie.lean); close each card by the builder's one call (the guide's Derived/Test/ToyasCard.lean, 'card_holds'). Laid BY PROGRAM, IN A SANDBOX (cutbox-door.mjs). By AI agents, Wed Nov 11 2026. No macro, syntax, notation, axiom, sorry.
-/
import Derived.Test.YteilfaiemefpcaaDoorRows
import GoSem.ClaimSeven
namespace Go.Proofs.YteilfaiemefpcaaDoor
namespace Rows

/-- THE TIED CARD OF 'laws.FnLogs'. -/
def fnLogsCard : Claim7 := { stood := { row := fnLogsRow, standIns := [], harness := (true, "c964c8b10870dd276b50af7292aade7f375303b3f0ac7490705d1c3c2a6192bb"), looks := false }, kinds := [], alts := [], laidByText := true, laidKinds := [.data], laidTests := true, laidLooks := .later }
def FnLogsCardSaid : Prop := Claim7.holds Tryd.pinned (.plain (OpenSpec.ofChange fnLogsSpec)) fnLogsCard

/-- THE TIED CARD OF 'laws.FnExactSumOf'. -/
def fnExactSumOfCard : Claim7 := { stood := { row := fnExactSumOfRow, standIns := [], harness := (true, "c964c8b10870dd276b50af7292aade7f375303b3f0ac7490705d1c3c2a6192bb"), looks := false }, kinds := [], alts := [], laidByText := true, laidKinds := [.data], laidTests := true, laidLooks := .later }
def FnExactSumOfCardSaid : Prop := Claim7.holds Tryd.pinned (.plain (OpenSpec.ofChange fnExactSumOfSpec)) fnExactSumOfCard

/-- THE TIED CARD OF 'laws.FnExactBatchBytes'. -/
def fnExactBatchBytesCard : Claim7 := { stood := { row := fnExactBatchBytesRow, standIns := [], harness := (true, "c964c8b10870dd276b50af7292aade7f375303b3f0ac7490705d1c3c2a6192bb"), looks := false }, kinds := [], alts := [], laidByText := true, laidKinds := [.data], laidTests := true, laidLooks := .later }
def FnExactBatchBytesCardSaid : Prop := Claim7.holds Tryd.pinned (.plain (OpenSpec.ofChange fnExactBatchBytesSpec)) fnExactBatchBytesCard

/-- THE TIED CARD OF 'laws.FnExactTakeBatch'. -/
def fnExactTakeBatchCard : Claim7 := { stood := { row := fnExactTakeBatchRow, standIns := [], harness := (true, "c964c8b10870dd276b50af7292aade7f375303b3f0ac7490705d1c3c2a6192bb"), looks := false }, kinds := [], alts := [], laidByText := true, laidKinds := [.data], laidTests := true, laidLooks := .later }
def FnExactTakeBatchCardSaid : Prop := Claim7.holds Tryd.pinned (.plain (OpenSpec.ofChange fnExactTakeBatchSpec)) fnExactTakeBatchCard

/-- THE TIED CARD OF 'laws.FnExactLogBytes'. -/
def fnExactLogBytesCard : Claim7 := { stood := { row := fnExactLogBytesRow, standIns := [], harness := (true, "c964c8b10870dd276b50af7292aade7f375303b3f0ac7490705d1c3c2a6192bb"), looks := false }, kinds := [], alts := [], laidByText := true, laidKinds := [.data], laidTests := true, laidLooks := .later }
def FnExactLogBytesCardSaid : Prop := Claim7.holds Tryd.pinned (.plain (OpenSpec.ofChange fnExactLogBytesSpec)) fnExactLogBytesCard

/-- THE TIED CARD OF 'laws.FnExactReadLog'. -/
def fnExactReadLogCard : Claim7 := { stood := { row := fnExactReadLogRow, standIns := [], harness := (true, "c964c8b10870dd276b50af7292aade7f375303b3f0ac7490705d1c3c2a6192bb"), looks := false }, kinds := [], alts := [], laidByText := true, laidKinds := [.data], laidTests := true, laidLooks := .later }
def FnExactReadLogCardSaid : Prop := Claim7.holds Tryd.pinned (.plain (OpenSpec.ofChange fnExactReadLogSpec)) fnExactReadLogCard

/-- THE SECOND FORM's CARD OF 'laws.FnLogs'. -/
def fnLogsUptoCard : Claim7 := { stood := { row := fnLogsUptoRow, standIns := [], harness := (true, "c964c8b10870dd276b50af7292aade7f375303b3f0ac7490705d1c3c2a6192bb"), looks := false }, kinds := [], alts := [], laidByText := true, laidKinds := [.data], laidTests := true, laidLooks := .later }
def FnLogsUptoCardSaid : Prop := Claim7.holds Tryd.pinned (.plain (OpenSpec.upto fnLogsSpec)) fnLogsUptoCard

/-- THE SECOND FORM's CARD OF 'laws.FnExactSumOf'. -/
def fnExactSumOfUptoCard : Claim7 := { stood := { row := fnExactSumOfUptoRow, standIns := [], harness := (true, "c964c8b10870dd276b50af7292aade7f375303b3f0ac7490705d1c3c2a6192bb"), looks := false }, kinds := [], alts := [], laidByText := true, laidKinds := [.data], laidTests := true, laidLooks := .later }
def FnExactSumOfUptoCardSaid : Prop := Claim7.holds Tryd.pinned (.plain (OpenSpec.upto fnExactSumOfSpec)) fnExactSumOfUptoCard

/-- THE SECOND FORM's CARD OF 'laws.FnExactBatchBytes'. -/
def fnExactBatchBytesUptoCard : Claim7 := { stood := { row := fnExactBatchBytesUptoRow, standIns := [], harness := (true, "c964c8b10870dd276b50af7292aade7f375303b3f0ac7490705d1c3c2a6192bb"), looks := false }, kinds := [], alts := [], laidByText := true, laidKinds := [.data], laidTests := true, laidLooks := .later }
def FnExactBatchBytesUptoCardSaid : Prop := Claim7.holds Tryd.pinned (.plain (OpenSpec.upto fnExactBatchBytesSpec)) fnExactBatchBytesUptoCard

/-- THE SECOND FORM's CARD OF 'laws.FnExactTakeBatch'. -/
def fnExactTakeBatchUptoCard : Claim7 := { stood := { row := fnExactTakeBatchUptoRow, standIns := [], harness := (true, "c964c8b10870dd276b50af7292aade7f375303b3f0ac7490705d1c3c2a6192bb"), looks := false }, kinds := [], alts := [], laidByText := true, laidKinds := [.data], laidTests := true, laidLooks := .later }
def FnExactTakeBatchUptoCardSaid : Prop := Claim7.holds Tryd.pinned (.plain (OpenSpec.upto fnExactTakeBatchSpec)) fnExactTakeBatchUptoCard

/-- THE SECOND FORM's CARD OF 'laws.FnExactLogBytes'. -/
def fnExactLogBytesUptoCard : Claim7 := { stood := { row := fnExactLogBytesUptoRow, standIns := [], harness := (true, "c964c8b10870dd276b50af7292aade7f375303b3f0ac7490705d1c3c2a6192bb"), looks := false }, kinds := [], alts := [], laidByText := true, laidKinds := [.data], laidTests := true, laidLooks := .later }
def FnExactLogBytesUptoCardSaid : Prop := Claim7.holds Tryd.pinned (.plain (OpenSpec.upto fnExactLogBytesSpec)) fnExactLogBytesUptoCard

/-- THE SECOND FORM's CARD OF 'laws.FnExactReadLog'. -/
def fnExactReadLogUptoCard : Claim7 := { stood := { row := fnExactReadLogUptoRow, standIns := [], harness := (true, "c964c8b10870dd276b50af7292aade7f375303b3f0ac7490705d1c3c2a6192bb"), looks := false }, kinds := [], alts := [], laidByText := true, laidKinds := [.data], laidTests := true, laidLooks := .later }
def FnExactReadLogUptoCardSaid : Prop := Claim7.holds Tryd.pinned (.plain (OpenSpec.upto fnExactReadLogSpec)) fnExactReadLogUptoCard
end Rows
end Go.Proofs.YteilfaiemefpcaaDoor
