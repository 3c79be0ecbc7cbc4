/-
  No cell of these rows narrows 'for every input' (looked for: loops, veiled, ifaces, maps, wideKeys, modest, calm, conditions, laid).
  DERIVED. THE GIVEN ROWS OF THIS SEAT. 7 by the template 'for every input the law returns true; each argument reads behind the call as it read before'; 0 by the template 'total and deterministic' (their statements: YtmpchddfijcjfaaTotals.lean).
  GIVEN WITH THE SEED: the statements are not yours to turn. If you find one false, say at which input.
  Laid BY PROGRAM, IN A SANDBOX (cutbox-rows.mjs): the forced cells as the released guide's own fill.sh prints them over the translation cda255bece4de8a6… (all of the seat's roots in one cut). By AI agents, Wed Nov 11 2026. No macro, syntax, notation, axiom, sorry.
-/
import Derived.Test.YtmpchddfijcjfaaChecked
import GoSem.Claim
import GoSem.ClaimJoined
import GoSem.ClaimMapViews
import Derived.JoinedTies
import Derived.KernelRfl
namespace Go.Proofs.Ytmpchddfijcjfaa
/- THE CELL 'sum', in the pinned program and in every row, IS THE sha256 OF THE DUMP (.gsa) THAT YtmpchddfijcjfaaProg.lean LOADS. Nothing in Lean hashes anything: it is a label: what it is worth is what the hold of that sum in a sandbox is worth. -/
noncomputable def Try.pinned : Pinned := { name := "ytmpchddfijcjfaa", sum := "cda255bece4de8a64ddc484be521f5c718257efd2208e88e8e2ad0aa6e11381e", checked := Try.checked }
namespace Rows
def none {H : Type} : Left H := { results := [], args := [] }

/-- 'laws.FnExactGoodPlaces': WHATEVER THE INPUT: true; the input reads as it did. -/
def fnExactGoodPlacesSpec : ChangeSpec := { name := "fnExactGoodPlaces", fn := fun _ => fun
  | [d1, d2] => { results := [.lit (.bool true)], args := [d1, d2] }
  | _ => none }
def fnExactGoodPlacesRow : OpenClaim := { program := "ytmpchddfijcjfaa", sum := "cda255bece4de8a64ddc484be521f5c718257efd2208e88e8e2ad0aa6e11381e", func := "loop.example/g00361/laws.FnExactGoodPlaces", spec := "fnExactGoodPlaces", unfollowed := true, recurses := true, apart := false }
def FnExactGoodPlacesSaid : Prop := fnExactGoodPlacesRow.holds Try.pinned (OpenSpec.ofChange fnExactGoodPlacesSpec)

/-- ITS FALSE NEIGHBOUR: 'it returns false'. Refute it at one input. -/
def fnExactGoodPlacesWrong : ChangeSpec := { name := "fnExactGoodPlaces", fn := fun _ => fun
  | [d1, d2] => { results := [.lit (.bool false)], args := [d1, d2] }
  | _ => none }
def FnExactGoodPlacesWrongFalsely : Prop := fnExactGoodPlacesRow.holds Try.pinned (OpenSpec.ofChange fnExactGoodPlacesWrong)

/-- 'laws.FnExactLoadsOf': WHATEVER THE INPUT: true; the input reads as it did. -/
def fnExactLoadsOfSpec : ChangeSpec := { name := "fnExactLoadsOf", fn := fun _ => fun
  | [d1, d2] => { results := [.lit (.bool true)], args := [d1, d2] }
  | _ => none }
def fnExactLoadsOfRow : OpenClaim := { program := "ytmpchddfijcjfaa", sum := "cda255bece4de8a64ddc484be521f5c718257efd2208e88e8e2ad0aa6e11381e", func := "loop.example/g00361/laws.FnExactLoadsOf", spec := "fnExactLoadsOf", unfollowed := true, recurses := true, apart := false }
def FnExactLoadsOfSaid : Prop := fnExactLoadsOfRow.holds Try.pinned (OpenSpec.ofChange fnExactLoadsOfSpec)

/-- ITS FALSE NEIGHBOUR: 'it returns false'. Refute it at one input. -/
def fnExactLoadsOfWrong : ChangeSpec := { name := "fnExactLoadsOf", fn := fun _ => fun
  | [d1, d2] => { results := [.lit (.bool false)], args := [d1, d2] }
  | _ => none }
def FnExactLoadsOfWrongFalsely : Prop := fnExactLoadsOfRow.holds Try.pinned (OpenSpec.ofChange fnExactLoadsOfWrong)

/-- 'laws.FnExactIsEven': WHATEVER THE INPUT: true; the input reads as it did. -/
def fnExactIsEvenSpec : ChangeSpec := { name := "fnExactIsEven", fn := fun _ => fun
  | [d1, d2] => { results := [.lit (.bool true)], args := [d1, d2] }
  | _ => none }
def fnExactIsEvenRow : OpenClaim := { program := "ytmpchddfijcjfaa", sum := "cda255bece4de8a64ddc484be521f5c718257efd2208e88e8e2ad0aa6e11381e", func := "loop.example/g00361/laws.FnExactIsEven", spec := "fnExactIsEven", unfollowed := true, recurses := true, apart := false }
def FnExactIsEvenSaid : Prop := fnExactIsEvenRow.holds Try.pinned (OpenSpec.ofChange fnExactIsEvenSpec)

/-- ITS FALSE NEIGHBOUR: 'it returns false'. Refute it at one input. -/
def fnExactIsEvenWrong : ChangeSpec := { name := "fnExactIsEven", fn := fun _ => fun
  | [d1, d2] => { results := [.lit (.bool false)], args := [d1, d2] }
  | _ => none }
def FnExactIsEvenWrongFalsely : Prop := fnExactIsEvenRow.holds Try.pinned (OpenSpec.ofChange fnExactIsEvenWrong)

/-- 'laws.FnExactSpreadEven': WHATEVER THE INPUT: true; the input reads as it did. -/
def fnExactSpreadEvenSpec : ChangeSpec := { name := "fnExactSpreadEven", fn := fun _ => fun
  | [d1, d2] => { results := [.lit (.bool true)], args := [d1, d2] }
  | _ => none }
def fnExactSpreadEvenRow : OpenClaim := { program := "ytmpchddfijcjfaa", sum := "cda255bece4de8a64ddc484be521f5c718257efd2208e88e8e2ad0aa6e11381e", func := "loop.example/g00361/laws.FnExactSpreadEven", spec := "fnExactSpreadEven", unfollowed := true, recurses := true, apart := false }
def FnExactSpreadEvenSaid : Prop := fnExactSpreadEvenRow.holds Try.pinned (OpenSpec.ofChange fnExactSpreadEvenSpec)

/-- ITS FALSE NEIGHBOUR: 'it returns false'. Refute it at one input. -/
def fnExactSpreadEvenWrong : ChangeSpec := { name := "fnExactSpreadEven", fn := fun _ => fun
  | [d1, d2] => { results := [.lit (.bool false)], args := [d1, d2] }
  | _ => none }
def FnExactSpreadEvenWrongFalsely : Prop := fnExactSpreadEvenRow.holds Try.pinned (OpenSpec.ofChange fnExactSpreadEvenWrong)

/-- 'laws.FnExactMovesTo': WHATEVER THE INPUT: true; the input reads as it did. -/
def fnExactMovesToSpec : ChangeSpec := { name := "fnExactMovesTo", fn := fun _ => fun
  | [d1, d2] => { results := [.lit (.bool true)], args := [d1, d2] }
  | _ => none }
def fnExactMovesToRow : OpenClaim := { program := "ytmpchddfijcjfaa", sum := "cda255bece4de8a64ddc484be521f5c718257efd2208e88e8e2ad0aa6e11381e", func := "loop.example/g00361/laws.FnExactMovesTo", spec := "fnExactMovesTo", unfollowed := true, recurses := true, apart := false }
def FnExactMovesToSaid : Prop := fnExactMovesToRow.holds Try.pinned (OpenSpec.ofChange fnExactMovesToSpec)

/-- ITS FALSE NEIGHBOUR: 'it returns false'. Refute it at one input. -/
def fnExactMovesToWrong : ChangeSpec := { name := "fnExactMovesTo", fn := fun _ => fun
  | [d1, d2] => { results := [.lit (.bool false)], args := [d1, d2] }
  | _ => none }
def FnExactMovesToWrongFalsely : Prop := fnExactMovesToRow.holds Try.pinned (OpenSpec.ofChange fnExactMovesToWrong)

/-- 'laws.FnExactFewestMoves': WHATEVER THE INPUT: true; the input reads as it did. -/
def fnExactFewestMovesSpec : ChangeSpec := { name := "fnExactFewestMoves", fn := fun _ => fun
  | [d1, d2] => { results := [.lit (.bool true)], args := [d1, d2] }
  | _ => none }
def fnExactFewestMovesRow : OpenClaim := { program := "ytmpchddfijcjfaa", sum := "cda255bece4de8a64ddc484be521f5c718257efd2208e88e8e2ad0aa6e11381e", func := "loop.example/g00361/laws.FnExactFewestMoves", spec := "fnExactFewestMoves", unfollowed := true, recurses := true, apart := false }
def FnExactFewestMovesSaid : Prop := fnExactFewestMovesRow.holds Try.pinned (OpenSpec.ofChange fnExactFewestMovesSpec)

/-- ITS FALSE NEIGHBOUR: 'it returns false'. Refute it at one input. -/
def fnExactFewestMovesWrong : ChangeSpec := { name := "fnExactFewestMoves", fn := fun _ => fun
  | [d1, d2] => { results := [.lit (.bool false)], args := [d1, d2] }
  | _ => none }
def FnExactFewestMovesWrongFalsely : Prop := fnExactFewestMovesRow.holds Try.pinned (OpenSpec.ofChange fnExactFewestMovesWrong)

/-- 'laws.FnExactDropHome': WHATEVER THE INPUT: true; the input reads as it did. -/
def fnExactDropHomeSpec : ChangeSpec := { name := "fnExactDropHome", fn := fun _ => fun
  | [d1, d2, d3] => { results := [.lit (.bool true)], args := [d1, d2, d3] }
  | _ => none }
def fnExactDropHomeRow : OpenClaim := { program := "ytmpchddfijcjfaa", sum := "cda255bece4de8a64ddc484be521f5c718257efd2208e88e8e2ad0aa6e11381e", func := "loop.example/g00361/laws.FnExactDropHome", spec := "fnExactDropHome", unfollowed := true, recurses := true, apart := false }
def FnExactDropHomeSaid : Prop := fnExactDropHomeRow.holds Try.pinned (OpenSpec.ofChange fnExactDropHomeSpec)

/-- ITS FALSE NEIGHBOUR: 'it returns false'. Refute it at one input. -/
def fnExactDropHomeWrong : ChangeSpec := { name := "fnExactDropHome", fn := fun _ => fun
  | [d1, d2, d3] => { results := [.lit (.bool false)], args := [d1, d2, d3] }
  | _ => none }
def FnExactDropHomeWrongFalsely : Prop := fnExactDropHomeRow.holds Try.pinned (OpenSpec.ofChange fnExactDropHomeWrong)

/- THE SECOND FORM. 'bulk': how many values and letters a reading holds, each counted each time it is reached (what is shared counts as often as it is met; a slice's spare places count too). A statement '..UptoSaid' is the law's where the arguments, and the package variables that the reading takes, are together of bulk at most 1048576: NARROWER than '..Said'. Prove '..Said' where nothing that the law and all that it calls make is longer than what came in: it says more and counts as full. Else prove '..UptoSaid'. A law counts once. -/
mutual
def uptoBulk {H : Type} : DataW H → Nat
  | .lit (.string bytes) => bytes.length + 1
  | .lit _ => 1
  | .nil => 1
  | .ptr d => uptoBulk d + 1
  | .slice elems spare => uptoBulkAll elems + uptoBulkAll spare + 1
  | .agg parts => uptoBulkAll parts + 1
  | .iface _ d => uptoBulk d + 1
  | .map entries => uptoBulkEntries entries + 1
  | .held _ => 1
def uptoBulkAll {H : Type} : List (DataW H) → Nat
  | [] => 0
  | d :: r => uptoBulk d + uptoBulkAll r
def uptoBulkEntries {H : Type} : List (Lit × DataW H) → Nat
  | [] => 0
  | x :: r => uptoBulkEntry x + uptoBulkEntries r
def uptoBulkEntry {H : Type} : Lit × DataW H → Nat
  | (.string bytes, d) => bytes.length + uptoBulk d + 1
  | (_, d) => uptoBulk d + 1
 end
def uptoSmall : (H : Type) → List (DataW H) → Bool := fun _ ds => decide (uptoBulkAll ds ≤ 1048576)
def OpenSpec.upto (s : _root_.Go.ChangeSpec) : _root_.Go.OpenSpec := { _root_.Go.OpenSpec.ofChange s with cond := some uptoSmall }

/-- 'laws.FnExactGoodPlaces', WHERE WHAT IT READS IS OF BULK AT MOST 1048576: true; the input reads as it did. -/
def fnExactGoodPlacesUptoRow : OpenClaim := { program := "ytmpchddfijcjfaa", sum := "cda255bece4de8a64ddc484be521f5c718257efd2208e88e8e2ad0aa6e11381e", func := "loop.example/g00361/laws.FnExactGoodPlaces", spec := "fnExactGoodPlaces", unfollowed := true, recurses := true, apart := false, narrowed := true }
def FnExactGoodPlacesUptoSaid : Prop := fnExactGoodPlacesUptoRow.holds Try.pinned (OpenSpec.upto fnExactGoodPlacesSpec)

/-- 'laws.FnExactLoadsOf', WHERE WHAT IT READS IS OF BULK AT MOST 1048576: true; the input reads as it did. -/
def fnExactLoadsOfUptoRow : OpenClaim := { program := "ytmpchddfijcjfaa", sum := "cda255bece4de8a64ddc484be521f5c718257efd2208e88e8e2ad0aa6e11381e", func := "loop.example/g00361/laws.FnExactLoadsOf", spec := "fnExactLoadsOf", unfollowed := true, recurses := true, apart := false, narrowed := true }
def FnExactLoadsOfUptoSaid : Prop := fnExactLoadsOfUptoRow.holds Try.pinned (OpenSpec.upto fnExactLoadsOfSpec)

/-- 'laws.FnExactIsEven', WHERE WHAT IT READS IS OF BULK AT MOST 1048576: true; the input reads as it did. -/
def fnExactIsEvenUptoRow : OpenClaim := { program := "ytmpchddfijcjfaa", sum := "cda255bece4de8a64ddc484be521f5c718257efd2208e88e8e2ad0aa6e11381e", func := "loop.example/g00361/laws.FnExactIsEven", spec := "fnExactIsEven", unfollowed := true, recurses := true, apart := false, narrowed := true }
def FnExactIsEvenUptoSaid : Prop := fnExactIsEvenUptoRow.holds Try.pinned (OpenSpec.upto fnExactIsEvenSpec)

/-- 'laws.FnExactSpreadEven', WHERE WHAT IT READS IS OF BULK AT MOST 1048576: true; the input reads as it did. -/
def fnExactSpreadEvenUptoRow : OpenClaim := { program := "ytmpchddfijcjfaa", sum := "cda255bece4de8a64ddc484be521f5c718257efd2208e88e8e2ad0aa6e11381e", func := "loop.example/g00361/laws.FnExactSpreadEven", spec := "fnExactSpreadEven", unfollowed := true, recurses := true, apart := false, narrowed := true }
def FnExactSpreadEvenUptoSaid : Prop := fnExactSpreadEvenUptoRow.holds Try.pinned (OpenSpec.upto fnExactSpreadEvenSpec)

/-- 'laws.FnExactMovesTo', WHERE WHAT IT READS IS OF BULK AT MOST 1048576: true; the input reads as it did. -/
def fnExactMovesToUptoRow : OpenClaim := { program := "ytmpchddfijcjfaa", sum := "cda255bece4de8a64ddc484be521f5c718257efd2208e88e8e2ad0aa6e11381e", func := "loop.example/g00361/laws.FnExactMovesTo", spec := "fnExactMovesTo", unfollowed := true, recurses := true, apart := false, narrowed := true }
def FnExactMovesToUptoSaid : Prop := fnExactMovesToUptoRow.holds Try.pinned (OpenSpec.upto fnExactMovesToSpec)

/-- 'laws.FnExactFewestMoves', WHERE WHAT IT READS IS OF BULK AT MOST 1048576: true; the input reads as it did. -/
def fnExactFewestMovesUptoRow : OpenClaim := { program := "ytmpchddfijcjfaa", sum := "cda255bece4de8a64ddc484be521f5c718257efd2208e88e8e2ad0aa6e11381e", func := "loop.example/g00361/laws.FnExactFewestMoves", spec := "fnExactFewestMoves", unfollowed := true, recurses := true, apart := false, narrowed := true }
def FnExactFewestMovesUptoSaid : Prop := fnExactFewestMovesUptoRow.holds Try.pinned (OpenSpec.upto fnExactFewestMovesSpec)

/-- 'laws.FnExactDropHome', WHERE WHAT IT READS IS OF BULK AT MOST 1048576: true; the input reads as it did. -/
def fnExactDropHomeUptoRow : OpenClaim := { program := "ytmpchddfijcjfaa", sum := "cda255bece4de8a64ddc484be521f5c718257efd2208e88e8e2ad0aa6e11381e", func := "loop.example/g00361/laws.FnExactDropHome", spec := "fnExactDropHome", unfollowed := true, recurses := true, apart := false, narrowed := true }
def FnExactDropHomeUptoSaid : Prop := fnExactDropHomeUptoRow.holds Try.pinned (OpenSpec.upto fnExactDropHomeSpec)

end Rows
end Go.Proofs.Ytmpchddfijcjfaa
