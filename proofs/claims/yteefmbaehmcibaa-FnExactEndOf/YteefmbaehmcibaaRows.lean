/-
  No cell of these rows narrows 'for every input' (looked for: loops, veiled, ifaces, maps, wideKeys, modest, calm, conditions, laid).
  DERIVED. THE GIVEN ROWS OF THIS SEAT. 3 by the template 'for every input the law returns true; each argument reads behind the call as it read before'; 0 by the template 'total and deterministic' (their statements: YteefmbaehmcibaaTotals.lean).
  GIVEN WITH THE SEED: the statements are not yours to turn. If you find one false, say at which input.
  Laid BY PROGRAM, IN A SANDBOX (cutbox-rows.mjs): the forced cells as the released guide's own fill.sh prints them over the translation e5eb7dc93b9a134a… (all of the seat's roots in one cut). By AI agents, Wed Nov 11 2026. No macro, syntax, notation, axiom, sorry.
-/
import Derived.Test.YteefmbaehmcibaaChecked
import GoSem.Claim
import GoSem.ClaimJoined
import GoSem.ClaimMapViews
import Derived.JoinedTies
import Derived.KernelRfl
namespace Go.Proofs.Yteefmbaehmcibaa
/- THE CELL 'sum', in the pinned program and in every row, IS THE sha256 OF THE DUMP (.gsa) THAT YteefmbaehmcibaaProg.lean LOADS. Nothing in Lean hashes anything: it is a label: what it is worth is what the hold of that sum in a sandbox is worth. -/
noncomputable def Try.pinned : Pinned := { name := "yteefmbaehmcibaa", sum := "e5eb7dc93b9a134a168caa0bd681253634e024c8e7f352f2c59c9fb5002cea25", checked := Try.checked }
namespace Rows
def none {H : Type} : Left H := { results := [], args := [] }

/-- 'laws.FnExactGoodBatch': WHATEVER THE INPUT: true; the input reads as it did. -/
def fnExactGoodBatchSpec : ChangeSpec := { name := "fnExactGoodBatch", fn := fun _ => fun
  | [d] => { results := [.lit (.bool true)], args := [d] }
  | _ => none }
def fnExactGoodBatchRow : OpenClaim := { program := "yteefmbaehmcibaa", sum := "e5eb7dc93b9a134a168caa0bd681253634e024c8e7f352f2c59c9fb5002cea25", func := "loop.example/g00361/laws.FnExactGoodBatch", spec := "fnExactGoodBatch", apart := false }
def FnExactGoodBatchSaid : Prop := fnExactGoodBatchRow.holds Try.pinned (OpenSpec.ofChange fnExactGoodBatchSpec)

/-- ITS FALSE NEIGHBOUR: 'it returns false'. Refute it at one input. -/
def fnExactGoodBatchWrong : ChangeSpec := { name := "fnExactGoodBatch", fn := fun _ => fun
  | [d] => { results := [.lit (.bool false)], args := [d] }
  | _ => none }
def FnExactGoodBatchWrongFalsely : Prop := fnExactGoodBatchRow.holds Try.pinned (OpenSpec.ofChange fnExactGoodBatchWrong)

/-- 'laws.FnExactGoodLog': WHATEVER THE INPUT: true; the input reads as it did. -/
def fnExactGoodLogSpec : ChangeSpec := { name := "fnExactGoodLog", fn := fun _ => fun
  | [d] => { results := [.lit (.bool true)], args := [d] }
  | _ => none }
def fnExactGoodLogRow : OpenClaim := { program := "yteefmbaehmcibaa", sum := "e5eb7dc93b9a134a168caa0bd681253634e024c8e7f352f2c59c9fb5002cea25", func := "loop.example/g00361/laws.FnExactGoodLog", spec := "fnExactGoodLog", apart := false }
def FnExactGoodLogSaid : Prop := fnExactGoodLogRow.holds Try.pinned (OpenSpec.ofChange fnExactGoodLogSpec)

/-- ITS FALSE NEIGHBOUR: 'it returns false'. Refute it at one input. -/
def fnExactGoodLogWrong : ChangeSpec := { name := "fnExactGoodLog", fn := fun _ => fun
  | [d] => { results := [.lit (.bool false)], args := [d] }
  | _ => none }
def FnExactGoodLogWrongFalsely : Prop := fnExactGoodLogRow.holds Try.pinned (OpenSpec.ofChange fnExactGoodLogWrong)

/-- 'laws.FnExactEndOf': WHATEVER THE INPUT: true; the input reads as it did. -/
def fnExactEndOfSpec : ChangeSpec := { name := "fnExactEndOf", fn := fun _ => fun
  | [d] => { results := [.lit (.bool true)], args := [d] }
  | _ => none }
def fnExactEndOfRow : OpenClaim := { program := "yteefmbaehmcibaa", sum := "e5eb7dc93b9a134a168caa0bd681253634e024c8e7f352f2c59c9fb5002cea25", func := "loop.example/g00361/laws.FnExactEndOf", spec := "fnExactEndOf", apart := false }
def FnExactEndOfSaid : Prop := fnExactEndOfRow.holds Try.pinned (OpenSpec.ofChange fnExactEndOfSpec)

/-- ITS FALSE NEIGHBOUR: 'it returns false'. Refute it at one input. -/
def fnExactEndOfWrong : ChangeSpec := { name := "fnExactEndOf", fn := fun _ => fun
  | [d] => { results := [.lit (.bool false)], args := [d] }
  | _ => none }
def FnExactEndOfWrongFalsely : Prop := fnExactEndOfRow.holds Try.pinned (OpenSpec.ofChange fnExactEndOfWrong)

/- THE SECOND FORM. 'bulk': how many values and letters a reading holds, each counted each time it is reached (what is shared counts as often as it is met; a slice's spare places count too). A statement '..UptoSaid' is the law's where the arguments, and the package variables that the reading takes, are together of bulk at most 1048576: NARROWER than '..Said'. Prove '..Said' where nothing that the law and all that it calls make is longer than what came in: it says more and counts as full. Else prove '..UptoSaid'. A law counts once. -/
mutual
def uptoBulk {H : Type} : DataW H → Nat
  | .lit (.string bytes) => bytes.length + 1
  | .lit _ => 1
  | .nil => 1
  | .ptr d => uptoBulk d + 1
  | .slice elems spare => uptoBulkAll elems + uptoBulkAll spare + 1
  | .agg parts => uptoBulkAll parts + 1
  | .iface _ d => uptoBulk d + 1
  | .map entries => uptoBulkEntries entries + 1
  | .held _ => 1
def uptoBulkAll {H : Type} : List (DataW H) → Nat
  | [] => 0
  | d :: r => uptoBulk d + uptoBulkAll r
def uptoBulkEntries {H : Type} : List (Lit × DataW H) → Nat
  | [] => 0
  | x :: r => uptoBulkEntry x + uptoBulkEntries r
def uptoBulkEntry {H : Type} : Lit × DataW H → Nat
  | (.string bytes, d) => bytes.length + uptoBulk d + 1
  | (_, d) => uptoBulk d + 1
 end
def uptoSmall : (H : Type) → List (DataW H) → Bool := fun _ ds => decide (uptoBulkAll ds ≤ 1048576)
def OpenSpec.upto (s : _root_.Go.ChangeSpec) : _root_.Go.OpenSpec := { _root_.Go.OpenSpec.ofChange s with cond := some uptoSmall }

/-- 'laws.FnExactGoodBatch', WHERE WHAT IT READS IS OF BULK AT MOST 1048576: true; the input reads as it did. -/
def fnExactGoodBatchUptoRow : OpenClaim := { program := "yteefmbaehmcibaa", sum := "e5eb7dc93b9a134a168caa0bd681253634e024c8e7f352f2c59c9fb5002cea25", func := "loop.example/g00361/laws.FnExactGoodBatch", spec := "fnExactGoodBatch", apart := false, narrowed := true }
def FnExactGoodBatchUptoSaid : Prop := fnExactGoodBatchUptoRow.holds Try.pinned (OpenSpec.upto fnExactGoodBatchSpec)

/-- 'laws.FnExactGoodLog', WHERE WHAT IT READS IS OF BULK AT MOST 1048576: true; the input reads as it did. -/
def fnExactGoodLogUptoRow : OpenClaim := { program := "yteefmbaehmcibaa", sum := "e5eb7dc93b9a134a168caa0bd681253634e024c8e7f352f2c59c9fb5002cea25", func := "loop.example/g00361/laws.FnExactGoodLog", spec := "fnExactGoodLog", apart := false, narrowed := true }
def FnExactGoodLogUptoSaid : Prop := fnExactGoodLogUptoRow.holds Try.pinned (OpenSpec.upto fnExactGoodLogSpec)

/-- 'laws.FnExactEndOf', WHERE WHAT IT READS IS OF BULK AT MOST 1048576: true; the input reads as it did. -/
def fnExactEndOfUptoRow : OpenClaim := { program := "yteefmbaehmcibaa", sum := "e5eb7dc93b9a134a168caa0bd681253634e024c8e7f352f2c59c9fb5002cea25", func := "loop.example/g00361/laws.FnExactEndOf", spec := "fnExactEndOf", apart := false, narrowed := true }
def FnExactEndOfUptoSaid : Prop := fnExactEndOfUptoRow.holds Try.pinned (OpenSpec.upto fnExactEndOfSpec)

end Rows
end Go.Proofs.Yteefmbaehmcibaa
