/-
  DERIVED. GIVEN WITH THE SEED: THE CARDS: each row of YtmpchddfijcjfaaDoorRows.lean that lists a variable, with what it lists TIED to the program's text (the seventh form; the later family's looks); each row that meets fmt, with fmt's text TOLD by the authors' own Lean function (tested against real Go, not proved from fmt's source: count such statements apart). THE CARD IS WHAT COUNTS. Prove the row's statement (the work); the ties are given (YtmpchddfijcjfaaDoorTie.lean); close each card by the builder's one call (the guide's Derived/Test/ToyasCard.lean, 'card_holds'). Laid BY PROGRAM, IN A SANDBOX (cutbox-door.mjs). By AI agents, Wed Nov 11 2026. No macro, syntax, notation, axiom, sorry.
-/
import Derived.Test.YtmpchddfijcjfaaDoorRows
import GoSem.ClaimSeven
namespace Go.Proofs.YtmpchddfijcjfaaDoor
namespace Rows

/-- THE TIED CARD OF 'laws.FnExactRacksOf'. -/
def fnExactRacksOfCard : Claim7 := { stood := { row := fnExactRacksOfRow, standIns := [], harness := (true, "b9bb8883aef3630cc80e4584c8e5c3f720ec95e30a409488496cb1a9885b7e8c"), looks := false }, kinds := [], alts := [], laidByText := true, laidKinds := [.data, .data], laidTests := true, laidLooks := .later }
def FnExactRacksOfCardSaid : Prop := Claim7.holds Tryd.pinned (.plain (OpenSpec.ofChange fnExactRacksOfSpec)) fnExactRacksOfCard

/-- THE TIED CARD OF 'laws.FnExactRackSafe'. -/
def fnExactRackSafeCard : Claim7 := { stood := { row := fnExactRackSafeRow, standIns := [], harness := (true, "b9bb8883aef3630cc80e4584c8e5c3f720ec95e30a409488496cb1a9885b7e8c"), looks := false }, kinds := [], alts := [], laidByText := true, laidKinds := [.data, .data], laidTests := true, laidLooks := .later }
def FnExactRackSafeCardSaid : Prop := Claim7.holds Tryd.pinned (.plain (OpenSpec.ofChange fnExactRackSafeSpec)) fnExactRackSafeCard

/-- THE SECOND FORM's CARD OF 'laws.FnExactRacksOf'. -/
def fnExactRacksOfUptoCard : Claim7 := { stood := { row := fnExactRacksOfUptoRow, standIns := [], harness := (true, "b9bb8883aef3630cc80e4584c8e5c3f720ec95e30a409488496cb1a9885b7e8c"), looks := false }, kinds := [], alts := [], laidByText := true, laidKinds := [.data, .data], laidTests := true, laidLooks := .later }
def FnExactRacksOfUptoCardSaid : Prop := Claim7.holds Tryd.pinned (.plain (OpenSpec.upto fnExactRacksOfSpec)) fnExactRacksOfUptoCard

/-- THE SECOND FORM's CARD OF 'laws.FnExactRackSafe'. -/
def fnExactRackSafeUptoCard : Claim7 := { stood := { row := fnExactRackSafeUptoRow, standIns := [], harness := (true, "b9bb8883aef3630cc80e4584c8e5c3f720ec95e30a409488496cb1a9885b7e8c"), looks := false }, kinds := [], alts := [], laidByText := true, laidKinds := [.data, .data], laidTests := true, laidLooks := .later }
def FnExactRackSafeUptoCardSaid : Prop := Claim7.holds Tryd.pinned (.plain (OpenSpec.upto fnExactRackSafeSpec)) fnExactRackSafeUptoCard
end Rows
end Go.Proofs.YtmpchddfijcjfaaDoor
