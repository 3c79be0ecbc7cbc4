/-
  DERIVED. GIVEN WITH THE SEED: THE CARDS: each row of YtekjpbfmiebigaaDoorRows.lean that lists a variable, with what it lists TIED to the program's text (the seventh form; the later family's looks); each row that meets fmt, with fmt's text TOLD by the authors' own Lean function (tested against real Go, not proved from fmt's source: count such statements apart). THE CARD IS WHAT COUNTS. Prove the row's statement (the work); the ties are given (YtekjpbfmiebigaaDoorTie.lean); close each card by the builder's one call (the guide's Derived/Test/ToyasCard.lean, 'card_holds'). Laid BY PROGRAM, IN A SANDBOX (cutbox-door.mjs). By AI agents, Wed Nov 11 2026. No macro, syntax, notation, axiom, sorry.
-/
import Derived.Test.YtekjpbfmiebigaaDoorRows
import GoSem.ClaimSeven
namespace Go.Proofs.YtekjpbfmiebigaaDoor
namespace Rows

/-- THE TIED CARD OF 'laws.FnExactNewCluster'. -/
def fnExactNewClusterCard : Claim7 := { stood := { row := fnExactNewClusterRow, standIns := [], harness := (true, "918b124443c534de93e128c75208d0d39b483383738c453e6b45ff7c549eef56"), looks := true }, kinds := [], alts := [], laidByText := true, laidKinds := [.data, .data], laidTests := true, laidLooks := .later }
def FnExactNewClusterCardSaid : Prop := Claim7.holds Tryd.pinned (.plain (OpenSpec.ofChange fnExactNewClusterSpec)) fnExactNewClusterCard

/-- THE TIED CARD OF 'laws.FnExactBehindIn'. -/
def fnExactBehindInCard : Claim7 := { stood := { row := fnExactBehindInRow, standIns := [], harness := (true, "918b124443c534de93e128c75208d0d39b483383738c453e6b45ff7c549eef56"), looks := true }, kinds := [], alts := [], laidByText := true, laidKinds := [.sentinel], laidTests := true, laidLooks := .later }
def FnExactBehindInCardSaid : Prop := Claim7.holds Tryd.pinned (.plain (OpenSpec.ofChange fnExactBehindInSpec)) fnExactBehindInCard

/-- THE SECOND FORM's CARD OF 'laws.FnExactNewCluster'. -/
def fnExactNewClusterUptoCard : Claim7 := { stood := { row := fnExactNewClusterUptoRow, standIns := [], harness := (true, "918b124443c534de93e128c75208d0d39b483383738c453e6b45ff7c549eef56"), looks := true }, kinds := [], alts := [], laidByText := true, laidKinds := [.data, .data], laidTests := true, laidLooks := .later }
def FnExactNewClusterUptoCardSaid : Prop := Claim7.holds Tryd.pinned (.plain (OpenSpec.upto fnExactNewClusterSpec)) fnExactNewClusterUptoCard

/-- THE SECOND FORM's CARD OF 'laws.FnExactBehindIn'. -/
def fnExactBehindInUptoCard : Claim7 := { stood := { row := fnExactBehindInUptoRow, standIns := [], harness := (true, "918b124443c534de93e128c75208d0d39b483383738c453e6b45ff7c549eef56"), looks := true }, kinds := [], alts := [], laidByText := true, laidKinds := [.sentinel], laidTests := true, laidLooks := .later }
def FnExactBehindInUptoCardSaid : Prop := Claim7.holds Tryd.pinned (.plain (OpenSpec.upto fnExactBehindInSpec)) fnExactBehindInUptoCard
end Rows
end Go.Proofs.YtekjpbfmiebigaaDoor
