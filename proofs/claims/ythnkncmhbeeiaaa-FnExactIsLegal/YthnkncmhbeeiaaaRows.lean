/-
  No cell of these rows narrows 'for every input' (looked for: loops, veiled, ifaces, maps, wideKeys, modest, calm, conditions, laid).
  DERIVED. THE GIVEN ROWS OF THIS SEAT. 5 by the template 'for every input the law returns true; each argument reads behind the call as it read before'; 0 by the template 'total and deterministic' (their statements: YthnkncmhbeeiaaaTotals.lean).
  GIVEN WITH THE SEED: the statements are not yours to turn. If you find one false, say at which input.
  Laid BY PROGRAM, IN A SANDBOX (cutbox-rows.mjs): the forced cells as the released guide's own fill.sh prints them over the translation cc8005246e656df7… (all of the seat's roots in one cut). By AI agents, Wed Nov 11 2026. No macro, syntax, notation, axiom, sorry.
-/
import Derived.Test.YthnkncmhbeeiaaaChecked
import GoSem.Claim
import GoSem.ClaimJoined
import GoSem.ClaimMapViews
import Derived.JoinedTies
import Derived.KernelRfl
namespace Go.Proofs.Ythnkncmhbeeiaaa
/- THE CELL 'sum', in the pinned program and in every row, IS THE sha256 OF THE DUMP (.gsa) THAT YthnkncmhbeeiaaaProg.lean LOADS. Nothing in Lean hashes anything: it is a label: what it is worth is what the hold of that sum in a sandbox is worth. -/
noncomputable def Try.pinned : Pinned := { name := "ythnkncmhbeeiaaa", sum := "cc8005246e656df774f7c43e1db534a8d2f6050833ba4d1c3cefeb4f771e89bf", checked := Try.checked }
namespace Rows
def none {H : Type} : Left H := { results := [], args := [] }

/-- 'laws.FnExactGoodCalls': WHATEVER THE INPUT: true; the input reads as it did. -/
def fnExactGoodCallsSpec : ChangeSpec := { name := "fnExactGoodCalls", fn := fun _ => fun
  | [d] => { results := [.lit (.bool true)], args := [d] }
  | _ => none }
def fnExactGoodCallsRow : OpenClaim := { program := "ythnkncmhbeeiaaa", sum := "cc8005246e656df774f7c43e1db534a8d2f6050833ba4d1c3cefeb4f771e89bf", func := "loop.example/g00361/laws.FnExactGoodCalls", spec := "fnExactGoodCalls", unfollowed := true, recurses := true, apart := false }
def FnExactGoodCallsSaid : Prop := fnExactGoodCallsRow.holds Try.pinned (OpenSpec.ofChange fnExactGoodCallsSpec)

/-- ITS FALSE NEIGHBOUR: 'it returns false'. Refute it at one input. -/
def fnExactGoodCallsWrong : ChangeSpec := { name := "fnExactGoodCalls", fn := fun _ => fun
  | [d] => { results := [.lit (.bool false)], args := [d] }
  | _ => none }
def FnExactGoodCallsWrongFalsely : Prop := fnExactGoodCallsRow.holds Try.pinned (OpenSpec.ofChange fnExactGoodCallsWrong)

/-- 'laws.FnExactIsLegal': WHATEVER THE INPUT: true; the input reads as it did. -/
def fnExactIsLegalSpec : ChangeSpec := { name := "fnExactIsLegal", fn := fun _ => fun
  | [d1, d2] => { results := [.lit (.bool true)], args := [d1, d2] }
  | _ => none }
def fnExactIsLegalRow : OpenClaim := { program := "ythnkncmhbeeiaaa", sum := "cc8005246e656df774f7c43e1db534a8d2f6050833ba4d1c3cefeb4f771e89bf", func := "loop.example/g00361/laws.FnExactIsLegal", spec := "fnExactIsLegal", unfollowed := true, recurses := true, apart := false }
def FnExactIsLegalSaid : Prop := fnExactIsLegalRow.holds Try.pinned (OpenSpec.ofChange fnExactIsLegalSpec)

/-- ITS FALSE NEIGHBOUR: 'it returns false'. Refute it at one input. -/
def fnExactIsLegalWrong : ChangeSpec := { name := "fnExactIsLegal", fn := fun _ => fun
  | [d1, d2] => { results := [.lit (.bool false)], args := [d1, d2] }
  | _ => none }
def FnExactIsLegalWrongFalsely : Prop := fnExactIsLegalRow.holds Try.pinned (OpenSpec.ofChange fnExactIsLegalWrong)

/-- 'laws.FnExactRespectsTime': WHATEVER THE INPUT: true; the input reads as it did. -/
def fnExactRespectsTimeSpec : ChangeSpec := { name := "fnExactRespectsTime", fn := fun _ => fun
  | [d1, d2] => { results := [.lit (.bool true)], args := [d1, d2] }
  | _ => none }
def fnExactRespectsTimeRow : OpenClaim := { program := "ythnkncmhbeeiaaa", sum := "cc8005246e656df774f7c43e1db534a8d2f6050833ba4d1c3cefeb4f771e89bf", func := "loop.example/g00361/laws.FnExactRespectsTime", spec := "fnExactRespectsTime", unfollowed := true, recurses := true, apart := false }
def FnExactRespectsTimeSaid : Prop := fnExactRespectsTimeRow.holds Try.pinned (OpenSpec.ofChange fnExactRespectsTimeSpec)

/-- ITS FALSE NEIGHBOUR: 'it returns false'. Refute it at one input. -/
def fnExactRespectsTimeWrong : ChangeSpec := { name := "fnExactRespectsTime", fn := fun _ => fun
  | [d1, d2] => { results := [.lit (.bool false)], args := [d1, d2] }
  | _ => none }
def FnExactRespectsTimeWrongFalsely : Prop := fnExactRespectsTimeRow.holds Try.pinned (OpenSpec.ofChange fnExactRespectsTimeWrong)

/-- 'laws.FnExactOnObject': WHATEVER THE INPUT: true; the input reads as it did. -/
def fnExactOnObjectSpec : ChangeSpec := { name := "fnExactOnObject", fn := fun _ => fun
  | [d1, d2] => { results := [.lit (.bool true)], args := [d1, d2] }
  | _ => none }
def fnExactOnObjectRow : OpenClaim := { program := "ythnkncmhbeeiaaa", sum := "cc8005246e656df774f7c43e1db534a8d2f6050833ba4d1c3cefeb4f771e89bf", func := "loop.example/g00361/laws.FnExactOnObject", spec := "fnExactOnObject", unfollowed := true, recurses := true, apart := false }
def FnExactOnObjectSaid : Prop := fnExactOnObjectRow.holds Try.pinned (OpenSpec.ofChange fnExactOnObjectSpec)

/-- ITS FALSE NEIGHBOUR: 'it returns false'. Refute it at one input. -/
def fnExactOnObjectWrong : ChangeSpec := { name := "fnExactOnObject", fn := fun _ => fun
  | [d1, d2] => { results := [.lit (.bool false)], args := [d1, d2] }
  | _ => none }
def FnExactOnObjectWrongFalsely : Prop := fnExactOnObjectRow.holds Try.pinned (OpenSpec.ofChange fnExactOnObjectWrong)

/-- 'laws.FnExactOverlapsIn': WHATEVER THE INPUT: true; the input reads as it did. -/
def fnExactOverlapsInSpec : ChangeSpec := { name := "fnExactOverlapsIn", fn := fun _ => fun
  | [d] => { results := [.lit (.bool true)], args := [d] }
  | _ => none }
def fnExactOverlapsInRow : OpenClaim := { program := "ythnkncmhbeeiaaa", sum := "cc8005246e656df774f7c43e1db534a8d2f6050833ba4d1c3cefeb4f771e89bf", func := "loop.example/g00361/laws.FnExactOverlapsIn", spec := "fnExactOverlapsIn", unfollowed := true, recurses := true, apart := false }
def FnExactOverlapsInSaid : Prop := fnExactOverlapsInRow.holds Try.pinned (OpenSpec.ofChange fnExactOverlapsInSpec)

/-- ITS FALSE NEIGHBOUR: 'it returns false'. Refute it at one input. -/
def fnExactOverlapsInWrong : ChangeSpec := { name := "fnExactOverlapsIn", fn := fun _ => fun
  | [d] => { results := [.lit (.bool false)], args := [d] }
  | _ => none }
def FnExactOverlapsInWrongFalsely : Prop := fnExactOverlapsInRow.holds Try.pinned (OpenSpec.ofChange fnExactOverlapsInWrong)

/- THE SECOND FORM. 'bulk': how many values and letters a reading holds, each counted each time it is reached (what is shared counts as often as it is met; a slice's spare places count too). A statement '..UptoSaid' is the law's where the arguments, and the package variables that the reading takes, are together of bulk at most 1048576: NARROWER than '..Said'. Prove '..Said' where nothing that the law and all that it calls make is longer than what came in: it says more and counts as full. Else prove '..UptoSaid'. A law counts once. -/
mutual
def uptoBulk {H : Type} : DataW H → Nat
  | .lit (.string bytes) => bytes.length + 1
  | .lit _ => 1
  | .nil => 1
  | .ptr d => uptoBulk d + 1
  | .slice elems spare => uptoBulkAll elems + uptoBulkAll spare + 1
  | .agg parts => uptoBulkAll parts + 1
  | .iface _ d => uptoBulk d + 1
  | .map entries => uptoBulkEntries entries + 1
  | .held _ => 1
def uptoBulkAll {H : Type} : List (DataW H) → Nat
  | [] => 0
  | d :: r => uptoBulk d + uptoBulkAll r
def uptoBulkEntries {H : Type} : List (Lit × DataW H) → Nat
  | [] => 0
  | x :: r => uptoBulkEntry x + uptoBulkEntries r
def uptoBulkEntry {H : Type} : Lit × DataW H → Nat
  | (.string bytes, d) => bytes.length + uptoBulk d + 1
  | (_, d) => uptoBulk d + 1
 end
def uptoSmall : (H : Type) → List (DataW H) → Bool := fun _ ds => decide (uptoBulkAll ds ≤ 1048576)
def OpenSpec.upto (s : _root_.Go.ChangeSpec) : _root_.Go.OpenSpec := { _root_.Go.OpenSpec.ofChange s with cond := some uptoSmall }

/-- 'laws.FnExactGoodCalls', WHERE WHAT IT READS IS OF BULK AT MOST 1048576: true; the input reads as it did. -/
def fnExactGoodCallsUptoRow : OpenClaim := { program := "ythnkncmhbeeiaaa", sum := "cc8005246e656df774f7c43e1db534a8d2f6050833ba4d1c3cefeb4f771e89bf", func := "loop.example/g00361/laws.FnExactGoodCalls", spec := "fnExactGoodCalls", unfollowed := true, recurses := true, apart := false, narrowed := true }
def FnExactGoodCallsUptoSaid : Prop := fnExactGoodCallsUptoRow.holds Try.pinned (OpenSpec.upto fnExactGoodCallsSpec)

/-- 'laws.FnExactIsLegal', WHERE WHAT IT READS IS OF BULK AT MOST 1048576: true; the input reads as it did. -/
def fnExactIsLegalUptoRow : OpenClaim := { program := "ythnkncmhbeeiaaa", sum := "cc8005246e656df774f7c43e1db534a8d2f6050833ba4d1c3cefeb4f771e89bf", func := "loop.example/g00361/laws.FnExactIsLegal", spec := "fnExactIsLegal", unfollowed := true, recurses := true, apart := false, narrowed := true }
def FnExactIsLegalUptoSaid : Prop := fnExactIsLegalUptoRow.holds Try.pinned (OpenSpec.upto fnExactIsLegalSpec)

/-- 'laws.FnExactRespectsTime', WHERE WHAT IT READS IS OF BULK AT MOST 1048576: true; the input reads as it did. -/
def fnExactRespectsTimeUptoRow : OpenClaim := { program := "ythnkncmhbeeiaaa", sum := "cc8005246e656df774f7c43e1db534a8d2f6050833ba4d1c3cefeb4f771e89bf", func := "loop.example/g00361/laws.FnExactRespectsTime", spec := "fnExactRespectsTime", unfollowed := true, recurses := true, apart := false, narrowed := true }
def FnExactRespectsTimeUptoSaid : Prop := fnExactRespectsTimeUptoRow.holds Try.pinned (OpenSpec.upto fnExactRespectsTimeSpec)

/-- 'laws.FnExactOnObject', WHERE WHAT IT READS IS OF BULK AT MOST 1048576: true; the input reads as it did. -/
def fnExactOnObjectUptoRow : OpenClaim := { program := "ythnkncmhbeeiaaa", sum := "cc8005246e656df774f7c43e1db534a8d2f6050833ba4d1c3cefeb4f771e89bf", func := "loop.example/g00361/laws.FnExactOnObject", spec := "fnExactOnObject", unfollowed := true, recurses := true, apart := false, narrowed := true }
def FnExactOnObjectUptoSaid : Prop := fnExactOnObjectUptoRow.holds Try.pinned (OpenSpec.upto fnExactOnObjectSpec)

/-- 'laws.FnExactOverlapsIn', WHERE WHAT IT READS IS OF BULK AT MOST 1048576: true; the input reads as it did. -/
def fnExactOverlapsInUptoRow : OpenClaim := { program := "ythnkncmhbeeiaaa", sum := "cc8005246e656df774f7c43e1db534a8d2f6050833ba4d1c3cefeb4f771e89bf", func := "loop.example/g00361/laws.FnExactOverlapsIn", spec := "fnExactOverlapsIn", unfollowed := true, recurses := true, apart := false, narrowed := true }
def FnExactOverlapsInUptoSaid : Prop := fnExactOverlapsInUptoRow.holds Try.pinned (OpenSpec.upto fnExactOverlapsInSpec)

end Rows
end Go.Proofs.Ythnkncmhbeeiaaa
