/-
  NARROWER THAN 'FOR EVERY INPUT', by the rows' own cells (each row's printed sentence says how): FnExactRecoverFile: laid · FnExactSurvivesIn: laid.
  DERIVED. THE GIVEN ROWS OF THIS SEAT. 2 by the template 'for every input the law returns true; each argument reads behind the call as it read before'; 0 by the template 'total and deterministic' (their statements: YtopndglgbollfaaDoorTotals.lean).
  GIVEN WITH THE SEED: the statements are not yours to turn. If you find one false, say at which input.
  Laid BY PROGRAM, IN A SANDBOX (cutbox-rows.mjs): the forced cells as the released guide's own fill.sh prints them over the translation d9e180771bae3606… (all of the seat's roots in one cut). By AI agents, Wed Nov 11 2026. No macro, syntax, notation, axiom, sorry.
-/
import Derived.Test.YtopndglgbollfaaDoorChecked
import GoSem.Claim
import GoSem.ClaimJoined
import GoSem.ClaimMapViews
import Derived.JoinedTies
import Derived.KernelRfl
namespace Go.Proofs.YtopndglgbollfaaDoor
/- THE CELL 'sum', in the pinned program and in every row, IS THE sha256 OF THE DUMP (.gsa) THAT YtopndglgbollfaaDoorProg.lean LOADS. Nothing in Lean hashes anything: it is a label: what it is worth is what the hold of that sum in a sandbox is worth. -/
noncomputable def Tryd.pinned : Pinned := { name := "ytopndglgbollfaadoor", sum := "d9e180771bae36060b5c51b2171e217bd7ef1c861ea39706874bdddedc526cd9", checked := Tryd.checked }
namespace Rows
def none {H : Type} : Left H := { results := [], args := [] }

/- WHAT THE LISTED PACKAGE-LEVEL VARIABLES READ AS WHEN THE CALL BEGINS. Each datum BY PROGRAM (the guide's laid-datum.mjs) off the statement by which the dump's own 'gosem.cut.vars' lays the variable. In a bare row this is a premise. The card (YtopndglgbollfaaDoorCards.lean) ties it to the program's text. -/
def laid_loop_example_g00361_impl_sumTable {H : Type} : DataW H := .agg [.lit (.int .u16 0), .lit (.int .u16 4129), .lit (.int .u16 8258), .lit (.int .u16 12387), .lit (.int .u16 16516), .lit (.int .u16 20645), .lit (.int .u16 24774), .lit (.int .u16 28903), .lit (.int .u16 33032), .lit (.int .u16 37161), .lit (.int .u16 41290), .lit (.int .u16 45419), .lit (.int .u16 49548), .lit (.int .u16 53677), .lit (.int .u16 57806), .lit (.int .u16 61935)]

/-- 'laws.FnExactRecoverFile': WHATEVER THE INPUT: true; the input reads as it did. -/
def fnExactRecoverFileSpec : ChangeSpec := { name := "fnExactRecoverFile", vars := ["loop.example/g00361/impl.sumTable"], fn := fun _ => fun
  | [d1, d2, g1] => { results := [.lit (.bool true)], args := [d1, d2], vars := [g1] }
  | _ => none }
def fnExactRecoverFileRow : OpenClaim := { program := "ytopndglgbollfaadoor", sum := "d9e180771bae36060b5c51b2171e217bd7ef1c861ea39706874bdddedc526cd9", func := "loop.example/g00361/laws.FnExactRecoverFile", spec := "fnExactRecoverFile", unfollowed := true, recurses := true, named := ["loop.example/g00361/impl.sumTable"], apart := false, laid := [("loop.example/g00361/impl.sumTable", laid_loop_example_g00361_impl_sumTable)] }
def FnExactRecoverFileSaid : Prop := fnExactRecoverFileRow.holds Tryd.pinned (OpenSpec.ofChange fnExactRecoverFileSpec)

/-- ITS FALSE NEIGHBOUR: 'it returns false'. Refute it at one input. -/
def fnExactRecoverFileWrong : ChangeSpec := { name := "fnExactRecoverFile", vars := ["loop.example/g00361/impl.sumTable"], fn := fun _ => fun
  | [d1, d2, g1] => { results := [.lit (.bool false)], args := [d1, d2], vars := [g1] }
  | _ => none }
def FnExactRecoverFileWrongFalsely : Prop := fnExactRecoverFileRow.holds Tryd.pinned (OpenSpec.ofChange fnExactRecoverFileWrong)

/-- 'laws.FnExactSurvivesIn': WHATEVER THE INPUT: true; the input reads as it did. -/
def fnExactSurvivesInSpec : ChangeSpec := { name := "fnExactSurvivesIn", vars := ["loop.example/g00361/impl.sumTable"], fn := fun _ => fun
  | [d1, d2, g1] => { results := [.lit (.bool true)], args := [d1, d2], vars := [g1] }
  | _ => none }
def fnExactSurvivesInRow : OpenClaim := { program := "ytopndglgbollfaadoor", sum := "d9e180771bae36060b5c51b2171e217bd7ef1c861ea39706874bdddedc526cd9", func := "loop.example/g00361/laws.FnExactSurvivesIn", spec := "fnExactSurvivesIn", named := ["loop.example/g00361/impl.sumTable"], apart := false, laid := [("loop.example/g00361/impl.sumTable", laid_loop_example_g00361_impl_sumTable)] }
def FnExactSurvivesInSaid : Prop := fnExactSurvivesInRow.holds Tryd.pinned (OpenSpec.ofChange fnExactSurvivesInSpec)

/-- ITS FALSE NEIGHBOUR: 'it returns false'. Refute it at one input. -/
def fnExactSurvivesInWrong : ChangeSpec := { name := "fnExactSurvivesIn", vars := ["loop.example/g00361/impl.sumTable"], fn := fun _ => fun
  | [d1, d2, g1] => { results := [.lit (.bool false)], args := [d1, d2], vars := [g1] }
  | _ => none }
def FnExactSurvivesInWrongFalsely : Prop := fnExactSurvivesInRow.holds Tryd.pinned (OpenSpec.ofChange fnExactSurvivesInWrong)

/- THE SECOND FORM. 'bulk': how many values and letters a reading holds, each counted each time it is reached (what is shared counts as often as it is met; a slice's spare places count too). A statement '..UptoSaid' is the law's where the arguments, and the package variables that the reading takes, are together of bulk at most 1048576: NARROWER than '..Said'. Prove '..Said' where nothing that the law and all that it calls make is longer than what came in: it says more and counts as full. Else prove '..UptoSaid'. A law counts once. -/
mutual
def uptoBulk {H : Type} : DataW H → Nat
  | .lit (.string bytes) => bytes.length + 1
  | .lit _ => 1
  | .nil => 1
  | .ptr d => uptoBulk d + 1
  | .slice elems spare => uptoBulkAll elems + uptoBulkAll spare + 1
  | .agg parts => uptoBulkAll parts + 1
  | .iface _ d => uptoBulk d + 1
  | .map entries => uptoBulkEntries entries + 1
  | .held _ => 1
def uptoBulkAll {H : Type} : List (DataW H) → Nat
  | [] => 0
  | d :: r => uptoBulk d + uptoBulkAll r
def uptoBulkEntries {H : Type} : List (Lit × DataW H) → Nat
  | [] => 0
  | x :: r => uptoBulkEntry x + uptoBulkEntries r
def uptoBulkEntry {H : Type} : Lit × DataW H → Nat
  | (.string bytes, d) => bytes.length + uptoBulk d + 1
  | (_, d) => uptoBulk d + 1
 end
def uptoSmall : (H : Type) → List (DataW H) → Bool := fun _ ds => decide (uptoBulkAll ds ≤ 1048576)
def OpenSpec.upto (s : _root_.Go.ChangeSpec) : _root_.Go.OpenSpec := { _root_.Go.OpenSpec.ofChange s with cond := some uptoSmall }

/-- 'laws.FnExactRecoverFile', WHERE WHAT IT READS IS OF BULK AT MOST 1048576: true; the input reads as it did. -/
def fnExactRecoverFileUptoRow : OpenClaim := { program := "ytopndglgbollfaadoor", sum := "d9e180771bae36060b5c51b2171e217bd7ef1c861ea39706874bdddedc526cd9", func := "loop.example/g00361/laws.FnExactRecoverFile", spec := "fnExactRecoverFile", unfollowed := true, recurses := true, named := ["loop.example/g00361/impl.sumTable"], apart := false, laid := [("loop.example/g00361/impl.sumTable", laid_loop_example_g00361_impl_sumTable)], narrowed := true }
def FnExactRecoverFileUptoSaid : Prop := fnExactRecoverFileUptoRow.holds Tryd.pinned (OpenSpec.upto fnExactRecoverFileSpec)

/-- 'laws.FnExactSurvivesIn', WHERE WHAT IT READS IS OF BULK AT MOST 1048576: true; the input reads as it did. -/
def fnExactSurvivesInUptoRow : OpenClaim := { program := "ytopndglgbollfaadoor", sum := "d9e180771bae36060b5c51b2171e217bd7ef1c861ea39706874bdddedc526cd9", func := "loop.example/g00361/laws.FnExactSurvivesIn", spec := "fnExactSurvivesIn", named := ["loop.example/g00361/impl.sumTable"], apart := false, laid := [("loop.example/g00361/impl.sumTable", laid_loop_example_g00361_impl_sumTable)], narrowed := true }
def FnExactSurvivesInUptoSaid : Prop := fnExactSurvivesInUptoRow.holds Tryd.pinned (OpenSpec.upto fnExactSurvivesInSpec)

end Rows
end Go.Proofs.YtopndglgbollfaaDoor
