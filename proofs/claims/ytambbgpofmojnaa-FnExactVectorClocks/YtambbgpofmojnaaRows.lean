/-
  No cell of these rows narrows 'for every input' (looked for: loops, veiled, ifaces, maps, wideKeys, modest, calm, conditions, laid).
  DERIVED. THE GIVEN ROWS OF THIS SEAT. 6 by the template 'for every input the law returns true; each argument reads behind the call as it read before'; 0 by the template 'total and deterministic' (their statements: YtambbgpofmojnaaTotals.lean).
  GIVEN WITH THE SEED: the statements are not yours to turn. If you find one false, say at which input.
  Laid BY PROGRAM, IN A SANDBOX (cutbox-rows.mjs): the forced cells as the released guide's own fill.sh prints them over the translation 17e4926d725a7515… (all of the seat's roots in one cut). By AI agents, Wed Nov 11 2026. No macro, syntax, notation, axiom, sorry.
-/
import Derived.Test.YtambbgpofmojnaaChecked
import GoSem.Claim
import GoSem.ClaimJoined
import GoSem.ClaimMapViews
import Derived.JoinedTies
import Derived.KernelRfl
namespace Go.Proofs.Ytambbgpofmojnaa
/- THE CELL 'sum', in the pinned program and in every row, IS THE sha256 OF THE DUMP (.gsa) THAT YtambbgpofmojnaaProg.lean LOADS. Nothing in Lean hashes anything: it is a label: what it is worth is what the hold of that sum in a sandbox is worth. -/
noncomputable def Try.pinned : Pinned := { name := "ytambbgpofmojnaa", sum := "17e4926d725a7515d0f7b8a58bca16a8283719e52185a2ed93902c1e16af95fe", checked := Try.checked }
namespace Rows
def none {H : Type} : Left H := { results := [], args := [] }

/-- 'laws.FnExactGoodEvents': WHATEVER THE INPUT: true; the input reads as it did. -/
def fnExactGoodEventsSpec : ChangeSpec := { name := "fnExactGoodEvents", fn := fun _ => fun
  | [d1, d2] => { results := [.lit (.bool true)], args := [d1, d2] }
  | _ => none }
def fnExactGoodEventsRow : OpenClaim := { program := "ytambbgpofmojnaa", sum := "17e4926d725a7515d0f7b8a58bca16a8283719e52185a2ed93902c1e16af95fe", func := "loop.example/g00361/laws.FnExactGoodEvents", spec := "fnExactGoodEvents", unfollowed := true, recurses := true, apart := false }
def FnExactGoodEventsSaid : Prop := fnExactGoodEventsRow.holds Try.pinned (OpenSpec.ofChange fnExactGoodEventsSpec)

/-- ITS FALSE NEIGHBOUR: 'it returns false'. Refute it at one input. -/
def fnExactGoodEventsWrong : ChangeSpec := { name := "fnExactGoodEvents", fn := fun _ => fun
  | [d1, d2] => { results := [.lit (.bool false)], args := [d1, d2] }
  | _ => none }
def FnExactGoodEventsWrongFalsely : Prop := fnExactGoodEventsRow.holds Try.pinned (OpenSpec.ofChange fnExactGoodEventsWrong)

/-- 'laws.FnExactScalarClocks': WHATEVER THE INPUT: true; the input reads as it did. -/
def fnExactScalarClocksSpec : ChangeSpec := { name := "fnExactScalarClocks", fn := fun _ => fun
  | [d1, d2] => { results := [.lit (.bool true)], args := [d1, d2] }
  | _ => none }
def fnExactScalarClocksRow : OpenClaim := { program := "ytambbgpofmojnaa", sum := "17e4926d725a7515d0f7b8a58bca16a8283719e52185a2ed93902c1e16af95fe", func := "loop.example/g00361/laws.FnExactScalarClocks", spec := "fnExactScalarClocks", unfollowed := true, recurses := true, apart := false }
def FnExactScalarClocksSaid : Prop := fnExactScalarClocksRow.holds Try.pinned (OpenSpec.ofChange fnExactScalarClocksSpec)

/-- ITS FALSE NEIGHBOUR: 'it returns false'. Refute it at one input. -/
def fnExactScalarClocksWrong : ChangeSpec := { name := "fnExactScalarClocks", fn := fun _ => fun
  | [d1, d2] => { results := [.lit (.bool false)], args := [d1, d2] }
  | _ => none }
def FnExactScalarClocksWrongFalsely : Prop := fnExactScalarClocksRow.holds Try.pinned (OpenSpec.ofChange fnExactScalarClocksWrong)

/-- 'laws.FnExactVectorClocks': WHATEVER THE INPUT: true; the input reads as it did. -/
def fnExactVectorClocksSpec : ChangeSpec := { name := "fnExactVectorClocks", fn := fun _ => fun
  | [d1, d2] => { results := [.lit (.bool true)], args := [d1, d2] }
  | _ => none }
def fnExactVectorClocksRow : OpenClaim := { program := "ytambbgpofmojnaa", sum := "17e4926d725a7515d0f7b8a58bca16a8283719e52185a2ed93902c1e16af95fe", func := "loop.example/g00361/laws.FnExactVectorClocks", spec := "fnExactVectorClocks", unfollowed := true, recurses := true, apart := false }
def FnExactVectorClocksSaid : Prop := fnExactVectorClocksRow.holds Try.pinned (OpenSpec.ofChange fnExactVectorClocksSpec)

/-- ITS FALSE NEIGHBOUR: 'it returns false'. Refute it at one input. -/
def fnExactVectorClocksWrong : ChangeSpec := { name := "fnExactVectorClocks", fn := fun _ => fun
  | [d1, d2] => { results := [.lit (.bool false)], args := [d1, d2] }
  | _ => none }
def FnExactVectorClocksWrongFalsely : Prop := fnExactVectorClocksRow.holds Try.pinned (OpenSpec.ofChange fnExactVectorClocksWrong)

/-- 'laws.FnExactHappensBefore': WHATEVER THE INPUT: true; the input reads as it did. -/
def fnExactHappensBeforeSpec : ChangeSpec := { name := "fnExactHappensBefore", fn := fun _ => fun
  | [d1, d2, d3, d4] => { results := [.lit (.bool true)], args := [d1, d2, d3, d4] }
  | _ => none }
def fnExactHappensBeforeRow : OpenClaim := { program := "ytambbgpofmojnaa", sum := "17e4926d725a7515d0f7b8a58bca16a8283719e52185a2ed93902c1e16af95fe", func := "loop.example/g00361/laws.FnExactHappensBefore", spec := "fnExactHappensBefore", unfollowed := true, recurses := true, apart := false }
def FnExactHappensBeforeSaid : Prop := fnExactHappensBeforeRow.holds Try.pinned (OpenSpec.ofChange fnExactHappensBeforeSpec)

/-- ITS FALSE NEIGHBOUR: 'it returns false'. Refute it at one input. -/
def fnExactHappensBeforeWrong : ChangeSpec := { name := "fnExactHappensBefore", fn := fun _ => fun
  | [d1, d2, d3, d4] => { results := [.lit (.bool false)], args := [d1, d2, d3, d4] }
  | _ => none }
def FnExactHappensBeforeWrongFalsely : Prop := fnExactHappensBeforeRow.holds Try.pinned (OpenSpec.ofChange fnExactHappensBeforeWrong)

/-- 'laws.FnExactCompareClocks': WHATEVER THE INPUT: true; the input reads as it did. -/
def fnExactCompareClocksSpec : ChangeSpec := { name := "fnExactCompareClocks", fn := fun _ => fun
  | [d1, d2] => { results := [.lit (.bool true)], args := [d1, d2] }
  | _ => none }
def fnExactCompareClocksRow : OpenClaim := { program := "ytambbgpofmojnaa", sum := "17e4926d725a7515d0f7b8a58bca16a8283719e52185a2ed93902c1e16af95fe", func := "loop.example/g00361/laws.FnExactCompareClocks", spec := "fnExactCompareClocks", apart := false }
def FnExactCompareClocksSaid : Prop := fnExactCompareClocksRow.holds Try.pinned (OpenSpec.ofChange fnExactCompareClocksSpec)

/-- ITS FALSE NEIGHBOUR: 'it returns false'. Refute it at one input. -/
def fnExactCompareClocksWrong : ChangeSpec := { name := "fnExactCompareClocks", fn := fun _ => fun
  | [d1, d2] => { results := [.lit (.bool false)], args := [d1, d2] }
  | _ => none }
def FnExactCompareClocksWrongFalsely : Prop := fnExactCompareClocksRow.holds Try.pinned (OpenSpec.ofChange fnExactCompareClocksWrong)

/-- 'laws.FnExactJoinClocks': WHATEVER THE INPUT: true; the input reads as it did. -/
def fnExactJoinClocksSpec : ChangeSpec := { name := "fnExactJoinClocks", fn := fun _ => fun
  | [d1, d2] => { results := [.lit (.bool true)], args := [d1, d2] }
  | _ => none }
def fnExactJoinClocksRow : OpenClaim := { program := "ytambbgpofmojnaa", sum := "17e4926d725a7515d0f7b8a58bca16a8283719e52185a2ed93902c1e16af95fe", func := "loop.example/g00361/laws.FnExactJoinClocks", spec := "fnExactJoinClocks", apart := false }
def FnExactJoinClocksSaid : Prop := fnExactJoinClocksRow.holds Try.pinned (OpenSpec.ofChange fnExactJoinClocksSpec)

/-- ITS FALSE NEIGHBOUR: 'it returns false'. Refute it at one input. -/
def fnExactJoinClocksWrong : ChangeSpec := { name := "fnExactJoinClocks", fn := fun _ => fun
  | [d1, d2] => { results := [.lit (.bool false)], args := [d1, d2] }
  | _ => none }
def FnExactJoinClocksWrongFalsely : Prop := fnExactJoinClocksRow.holds Try.pinned (OpenSpec.ofChange fnExactJoinClocksWrong)

/- THE SECOND FORM. 'bulk': how many values and letters a reading holds, each counted each time it is reached (what is shared counts as often as it is met; a slice's spare places count too). A statement '..UptoSaid' is the law's where the arguments, and the package variables that the reading takes, are together of bulk at most 1048576: NARROWER than '..Said'. Prove '..Said' where nothing that the law and all that it calls make is longer than what came in: it says more and counts as full. Else prove '..UptoSaid'. A law counts once. -/
mutual
def uptoBulk {H : Type} : DataW H → Nat
  | .lit (.string bytes) => bytes.length + 1
  | .lit _ => 1
  | .nil => 1
  | .ptr d => uptoBulk d + 1
  | .slice elems spare => uptoBulkAll elems + uptoBulkAll spare + 1
  | .agg parts => uptoBulkAll parts + 1
  | .iface _ d => uptoBulk d + 1
  | .map entries => uptoBulkEntries entries + 1
  | .held _ => 1
def uptoBulkAll {H : Type} : List (DataW H) → Nat
  | [] => 0
  | d :: r => uptoBulk d + uptoBulkAll r
def uptoBulkEntries {H : Type} : List (Lit × DataW H) → Nat
  | [] => 0
  | x :: r => uptoBulkEntry x + uptoBulkEntries r
def uptoBulkEntry {H : Type} : Lit × DataW H → Nat
  | (.string bytes, d) => bytes.length + uptoBulk d + 1
  | (_, d) => uptoBulk d + 1
 end
def uptoSmall : (H : Type) → List (DataW H) → Bool := fun _ ds => decide (uptoBulkAll ds ≤ 1048576)
def OpenSpec.upto (s : _root_.Go.ChangeSpec) : _root_.Go.OpenSpec := { _root_.Go.OpenSpec.ofChange s with cond := some uptoSmall }

/-- 'laws.FnExactGoodEvents', WHERE WHAT IT READS IS OF BULK AT MOST 1048576: true; the input reads as it did. -/
def fnExactGoodEventsUptoRow : OpenClaim := { program := "ytambbgpofmojnaa", sum := "17e4926d725a7515d0f7b8a58bca16a8283719e52185a2ed93902c1e16af95fe", func := "loop.example/g00361/laws.FnExactGoodEvents", spec := "fnExactGoodEvents", unfollowed := true, recurses := true, apart := false, narrowed := true }
def FnExactGoodEventsUptoSaid : Prop := fnExactGoodEventsUptoRow.holds Try.pinned (OpenSpec.upto fnExactGoodEventsSpec)

/-- 'laws.FnExactScalarClocks', WHERE WHAT IT READS IS OF BULK AT MOST 1048576: true; the input reads as it did. -/
def fnExactScalarClocksUptoRow : OpenClaim := { program := "ytambbgpofmojnaa", sum := "17e4926d725a7515d0f7b8a58bca16a8283719e52185a2ed93902c1e16af95fe", func := "loop.example/g00361/laws.FnExactScalarClocks", spec := "fnExactScalarClocks", unfollowed := true, recurses := true, apart := false, narrowed := true }
def FnExactScalarClocksUptoSaid : Prop := fnExactScalarClocksUptoRow.holds Try.pinned (OpenSpec.upto fnExactScalarClocksSpec)

/-- 'laws.FnExactVectorClocks', WHERE WHAT IT READS IS OF BULK AT MOST 1048576: true; the input reads as it did. -/
def fnExactVectorClocksUptoRow : OpenClaim := { program := "ytambbgpofmojnaa", sum := "17e4926d725a7515d0f7b8a58bca16a8283719e52185a2ed93902c1e16af95fe", func := "loop.example/g00361/laws.FnExactVectorClocks", spec := "fnExactVectorClocks", unfollowed := true, recurses := true, apart := false, narrowed := true }
def FnExactVectorClocksUptoSaid : Prop := fnExactVectorClocksUptoRow.holds Try.pinned (OpenSpec.upto fnExactVectorClocksSpec)

/-- 'laws.FnExactHappensBefore', WHERE WHAT IT READS IS OF BULK AT MOST 1048576: true; the input reads as it did. -/
def fnExactHappensBeforeUptoRow : OpenClaim := { program := "ytambbgpofmojnaa", sum := "17e4926d725a7515d0f7b8a58bca16a8283719e52185a2ed93902c1e16af95fe", func := "loop.example/g00361/laws.FnExactHappensBefore", spec := "fnExactHappensBefore", unfollowed := true, recurses := true, apart := false, narrowed := true }
def FnExactHappensBeforeUptoSaid : Prop := fnExactHappensBeforeUptoRow.holds Try.pinned (OpenSpec.upto fnExactHappensBeforeSpec)

/-- 'laws.FnExactCompareClocks', WHERE WHAT IT READS IS OF BULK AT MOST 1048576: true; the input reads as it did. -/
def fnExactCompareClocksUptoRow : OpenClaim := { program := "ytambbgpofmojnaa", sum := "17e4926d725a7515d0f7b8a58bca16a8283719e52185a2ed93902c1e16af95fe", func := "loop.example/g00361/laws.FnExactCompareClocks", spec := "fnExactCompareClocks", apart := false, narrowed := true }
def FnExactCompareClocksUptoSaid : Prop := fnExactCompareClocksUptoRow.holds Try.pinned (OpenSpec.upto fnExactCompareClocksSpec)

/-- 'laws.FnExactJoinClocks', WHERE WHAT IT READS IS OF BULK AT MOST 1048576: true; the input reads as it did. -/
def fnExactJoinClocksUptoRow : OpenClaim := { program := "ytambbgpofmojnaa", sum := "17e4926d725a7515d0f7b8a58bca16a8283719e52185a2ed93902c1e16af95fe", func := "loop.example/g00361/laws.FnExactJoinClocks", spec := "fnExactJoinClocks", apart := false, narrowed := true }
def FnExactJoinClocksUptoSaid : Prop := fnExactJoinClocksUptoRow.holds Try.pinned (OpenSpec.upto fnExactJoinClocksSpec)

end Rows
end Go.Proofs.Ytambbgpofmojnaa
