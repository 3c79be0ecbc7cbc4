/-
  DERIVED. GIVEN WITH THE SEED: THE CARDS: each row of YtifahambpgnedaaDoorRows.lean that lists a variable, with what it lists TIED to the program's text (the seventh form; the later family's looks); each row that meets fmt, with fmt's text TOLD by the authors' own Lean function (tested against real Go, not proved from fmt's source: count such statements apart). THE CARD IS WHAT COUNTS. Prove the row's statement (the work); the ties are given (YtifahambpgnedaaDoorTie.lean); close each card by the builder's one call (the guide's Derived/Test/ToyasCard.lean, 'card_holds'). Laid BY PROGRAM, IN A SANDBOX (cutbox-door.mjs). By AI agents, Wed Nov 11 2026. No macro, syntax, notation, axiom, sorry.
-/
import Derived.Test.YtifahambpgnedaaDoorRows
import GoSem.ClaimSeven
namespace Go.Proofs.YtifahambpgnedaaDoor
namespace Rows

/-- THE TIED CARD OF 'laws.FnExactIsQuorum'. -/
def fnExactIsQuorumCard : Claim7 := { stood := { row := fnExactIsQuorumRow, standIns := [], harness := (true, "a1e58d56f33995694b2160985f262a4109206c7461faf6de44112d38f416b7cb"), looks := false }, kinds := [], alts := [], laidByText := true, laidKinds := [.data, .data], laidTests := true, laidLooks := .later }
def FnExactIsQuorumCardSaid : Prop := Claim7.holds Tryd.pinned (.plain (OpenSpec.ofChange fnExactIsQuorumSpec)) fnExactIsQuorumCard

/-- THE TIED CARD OF 'laws.FnExactLeastQuorums'. -/
def fnExactLeastQuorumsCard : Claim7 := { stood := { row := fnExactLeastQuorumsRow, standIns := [], harness := (true, "a1e58d56f33995694b2160985f262a4109206c7461faf6de44112d38f416b7cb"), looks := false }, kinds := [], alts := [], laidByText := true, laidKinds := [.data, .data], laidTests := true, laidLooks := .later }
def FnExactLeastQuorumsCardSaid : Prop := Claim7.holds Tryd.pinned (.plain (OpenSpec.ofChange fnExactLeastQuorumsSpec)) fnExactLeastQuorumsCard

/-- THE TIED CARD OF 'laws.FnExactBlocksOf'. -/
def fnExactBlocksOfCard : Claim7 := { stood := { row := fnExactBlocksOfRow, standIns := [], harness := (true, "a1e58d56f33995694b2160985f262a4109206c7461faf6de44112d38f416b7cb"), looks := false }, kinds := [], alts := [], laidByText := true, laidKinds := [.data, .data], laidTests := true, laidLooks := .later }
def FnExactBlocksOfCardSaid : Prop := Claim7.holds Tryd.pinned (.plain (OpenSpec.ofChange fnExactBlocksOfSpec)) fnExactBlocksOfCard

/-- THE TIED CARD OF 'laws.FnExactGridQuorums'. -/
def fnExactGridQuorumsCard : Claim7 := { stood := { row := fnExactGridQuorumsRow, standIns := [], harness := (true, "a1e58d56f33995694b2160985f262a4109206c7461faf6de44112d38f416b7cb"), looks := false }, kinds := [], alts := [], laidByText := true, laidKinds := [.data, .data], laidTests := true, laidLooks := .later }
def FnExactGridQuorumsCardSaid : Prop := Claim7.holds Tryd.pinned (.plain (OpenSpec.ofChange fnExactGridQuorumsSpec)) fnExactGridQuorumsCard

/-- THE TIED CARD OF 'laws.FnExactReadWrite'. -/
def fnExactReadWriteCard : Claim7 := { stood := { row := fnExactReadWriteRow, standIns := [], harness := (true, "a1e58d56f33995694b2160985f262a4109206c7461faf6de44112d38f416b7cb"), looks := false }, kinds := [], alts := [], laidByText := true, laidKinds := [.data, .data], laidTests := true, laidLooks := .later }
def FnExactReadWriteCardSaid : Prop := Claim7.holds Tryd.pinned (.plain (OpenSpec.ofChange fnExactReadWriteSpec)) fnExactReadWriteCard

/-- THE SECOND FORM's CARD OF 'laws.FnExactIsQuorum'. -/
def fnExactIsQuorumUptoCard : Claim7 := { stood := { row := fnExactIsQuorumUptoRow, standIns := [], harness := (true, "a1e58d56f33995694b2160985f262a4109206c7461faf6de44112d38f416b7cb"), looks := false }, kinds := [], alts := [], laidByText := true, laidKinds := [.data, .data], laidTests := true, laidLooks := .later }
def FnExactIsQuorumUptoCardSaid : Prop := Claim7.holds Tryd.pinned (.plain (OpenSpec.upto fnExactIsQuorumSpec)) fnExactIsQuorumUptoCard

/-- THE SECOND FORM's CARD OF 'laws.FnExactLeastQuorums'. -/
def fnExactLeastQuorumsUptoCard : Claim7 := { stood := { row := fnExactLeastQuorumsUptoRow, standIns := [], harness := (true, "a1e58d56f33995694b2160985f262a4109206c7461faf6de44112d38f416b7cb"), looks := false }, kinds := [], alts := [], laidByText := true, laidKinds := [.data, .data], laidTests := true, laidLooks := .later }
def FnExactLeastQuorumsUptoCardSaid : Prop := Claim7.holds Tryd.pinned (.plain (OpenSpec.upto fnExactLeastQuorumsSpec)) fnExactLeastQuorumsUptoCard

/-- THE SECOND FORM's CARD OF 'laws.FnExactBlocksOf'. -/
def fnExactBlocksOfUptoCard : Claim7 := { stood := { row := fnExactBlocksOfUptoRow, standIns := [], harness := (true, "a1e58d56f33995694b2160985f262a4109206c7461faf6de44112d38f416b7cb"), looks := false }, kinds := [], alts := [], laidByText := true, laidKinds := [.data, .data], laidTests := true, laidLooks := .later }
def FnExactBlocksOfUptoCardSaid : Prop := Claim7.holds Tryd.pinned (.plain (OpenSpec.upto fnExactBlocksOfSpec)) fnExactBlocksOfUptoCard

/-- THE SECOND FORM's CARD OF 'laws.FnExactGridQuorums'. -/
def fnExactGridQuorumsUptoCard : Claim7 := { stood := { row := fnExactGridQuorumsUptoRow, standIns := [], harness := (true, "a1e58d56f33995694b2160985f262a4109206c7461faf6de44112d38f416b7cb"), looks := false }, kinds := [], alts := [], laidByText := true, laidKinds := [.data, .data], laidTests := true, laidLooks := .later }
def FnExactGridQuorumsUptoCardSaid : Prop := Claim7.holds Tryd.pinned (.plain (OpenSpec.upto fnExactGridQuorumsSpec)) fnExactGridQuorumsUptoCard

/-- THE SECOND FORM's CARD OF 'laws.FnExactReadWrite'. -/
def fnExactReadWriteUptoCard : Claim7 := { stood := { row := fnExactReadWriteUptoRow, standIns := [], harness := (true, "a1e58d56f33995694b2160985f262a4109206c7461faf6de44112d38f416b7cb"), looks := false }, kinds := [], alts := [], laidByText := true, laidKinds := [.data, .data], laidTests := true, laidLooks := .later }
def FnExactReadWriteUptoCardSaid : Prop := Claim7.holds Tryd.pinned (.plain (OpenSpec.upto fnExactReadWriteSpec)) fnExactReadWriteUptoCard
end Rows
end Go.Proofs.YtifahambpgnedaaDoor
