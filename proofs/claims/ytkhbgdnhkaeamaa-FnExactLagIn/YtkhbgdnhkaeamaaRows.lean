/-
  No cell of these rows narrows 'for every input' (looked for: loops, veiled, ifaces, maps, wideKeys, modest, calm, conditions, laid).
  DERIVED. THE GIVEN ROWS OF THIS SEAT. 3 by the template 'for every input the law returns true; each argument reads behind the call as it read before'; 0 by the template 'total and deterministic' (their statements: YtkhbgdnhkaeamaaTotals.lean).
  GIVEN WITH THE SEED: the statements are not yours to turn. If you find one false, say at which input.
  Laid BY PROGRAM, IN A SANDBOX (cutbox-rows.mjs): the forced cells as the released guide's own fill.sh prints them over the translation 71f0d9a1fc0b0a9a… (all of the seat's roots in one cut). By AI agents, Wed Nov 11 2026. No macro, syntax, notation, axiom, sorry.
-/
import Derived.Test.YtkhbgdnhkaeamaaChecked
import GoSem.Claim
import GoSem.ClaimJoined
import GoSem.ClaimMapViews
import Derived.JoinedTies
import Derived.KernelRfl
namespace Go.Proofs.Ytkhbgdnhkaeamaa
/- THE CELL 'sum', in the pinned program and in every row, IS THE sha256 OF THE DUMP (.gsa) THAT YtkhbgdnhkaeamaaProg.lean LOADS. Nothing in Lean hashes anything: it is a label: what it is worth is what the hold of that sum in a sandbox is worth. -/
noncomputable def Try.pinned : Pinned := { name := "ytkhbgdnhkaeamaa", sum := "71f0d9a1fc0b0a9af0a01ebeb26864a1daf6b0bc482cc7689ac3ce28b14fc803", checked := Try.checked }
namespace Rows
def none {H : Type} : Left H := { results := [], args := [] }

/-- 'laws.FnExactGoodGroup': WHATEVER THE INPUT: true; the input reads as it did. -/
def fnExactGoodGroupSpec : ChangeSpec := { name := "fnExactGoodGroup", fn := fun _ => fun
  | [d] => { results := [.lit (.bool true)], args := [d] }
  | _ => none }
def fnExactGoodGroupRow : OpenClaim := { program := "ytkhbgdnhkaeamaa", sum := "71f0d9a1fc0b0a9af0a01ebeb26864a1daf6b0bc482cc7689ac3ce28b14fc803", func := "loop.example/g00361/laws.FnExactGoodGroup", spec := "fnExactGoodGroup", unfollowed := true, recurses := true, apart := false }
def FnExactGoodGroupSaid : Prop := fnExactGoodGroupRow.holds Try.pinned (OpenSpec.ofChange fnExactGoodGroupSpec)

/-- ITS FALSE NEIGHBOUR: 'it returns false'. Refute it at one input. -/
def fnExactGoodGroupWrong : ChangeSpec := { name := "fnExactGoodGroup", fn := fun _ => fun
  | [d] => { results := [.lit (.bool false)], args := [d] }
  | _ => none }
def FnExactGoodGroupWrongFalsely : Prop := fnExactGoodGroupRow.holds Try.pinned (OpenSpec.ofChange fnExactGoodGroupWrong)

/-- 'laws.FnExactCommittedRows': WHATEVER THE INPUT: true; the input reads as it did. -/
def fnExactCommittedRowsSpec : ChangeSpec := { name := "fnExactCommittedRows", fn := fun _ => fun
  | [d] => { results := [.lit (.bool true)], args := [d] }
  | _ => none }
def fnExactCommittedRowsRow : OpenClaim := { program := "ytkhbgdnhkaeamaa", sum := "71f0d9a1fc0b0a9af0a01ebeb26864a1daf6b0bc482cc7689ac3ce28b14fc803", func := "loop.example/g00361/laws.FnExactCommittedRows", spec := "fnExactCommittedRows", unfollowed := true, recurses := true, apart := false }
def FnExactCommittedRowsSaid : Prop := fnExactCommittedRowsRow.holds Try.pinned (OpenSpec.ofChange fnExactCommittedRowsSpec)

/-- ITS FALSE NEIGHBOUR: 'it returns false'. Refute it at one input. -/
def fnExactCommittedRowsWrong : ChangeSpec := { name := "fnExactCommittedRows", fn := fun _ => fun
  | [d] => { results := [.lit (.bool false)], args := [d] }
  | _ => none }
def FnExactCommittedRowsWrongFalsely : Prop := fnExactCommittedRowsRow.holds Try.pinned (OpenSpec.ofChange fnExactCommittedRowsWrong)

/-- 'laws.FnExactLagIn': WHATEVER THE INPUT: true; the input reads as it did. -/
def fnExactLagInSpec : ChangeSpec := { name := "fnExactLagIn", fn := fun _ => fun
  | [d1, d2] => { results := [.lit (.bool true)], args := [d1, d2] }
  | _ => none }
def fnExactLagInRow : OpenClaim := { program := "ytkhbgdnhkaeamaa", sum := "71f0d9a1fc0b0a9af0a01ebeb26864a1daf6b0bc482cc7689ac3ce28b14fc803", func := "loop.example/g00361/laws.FnExactLagIn", spec := "fnExactLagIn", unfollowed := true, recurses := true, apart := false }
def FnExactLagInSaid : Prop := fnExactLagInRow.holds Try.pinned (OpenSpec.ofChange fnExactLagInSpec)

/-- ITS FALSE NEIGHBOUR: 'it returns false'. Refute it at one input. -/
def fnExactLagInWrong : ChangeSpec := { name := "fnExactLagIn", fn := fun _ => fun
  | [d1, d2] => { results := [.lit (.bool false)], args := [d1, d2] }
  | _ => none }
def FnExactLagInWrongFalsely : Prop := fnExactLagInRow.holds Try.pinned (OpenSpec.ofChange fnExactLagInWrong)

/- THE SECOND FORM. 'bulk': how many values and letters a reading holds, each counted each time it is reached (what is shared counts as often as it is met; a slice's spare places count too). A statement '..UptoSaid' is the law's where the arguments, and the package variables that the reading takes, are together of bulk at most 1048576: NARROWER than '..Said'. Prove '..Said' where nothing that the law and all that it calls make is longer than what came in: it says more and counts as full. Else prove '..UptoSaid'. A law counts once. -/
mutual
def uptoBulk {H : Type} : DataW H → Nat
  | .lit (.string bytes) => bytes.length + 1
  | .lit _ => 1
  | .nil => 1
  | .ptr d => uptoBulk d + 1
  | .slice elems spare => uptoBulkAll elems + uptoBulkAll spare + 1
  | .agg parts => uptoBulkAll parts + 1
  | .iface _ d => uptoBulk d + 1
  | .map entries => uptoBulkEntries entries + 1
  | .held _ => 1
def uptoBulkAll {H : Type} : List (DataW H) → Nat
  | [] => 0
  | d :: r => uptoBulk d + uptoBulkAll r
def uptoBulkEntries {H : Type} : List (Lit × DataW H) → Nat
  | [] => 0
  | x :: r => uptoBulkEntry x + uptoBulkEntries r
def uptoBulkEntry {H : Type} : Lit × DataW H → Nat
  | (.string bytes, d) => bytes.length + uptoBulk d + 1
  | (_, d) => uptoBulk d + 1
 end
def uptoSmall : (H : Type) → List (DataW H) → Bool := fun _ ds => decide (uptoBulkAll ds ≤ 1048576)
def OpenSpec.upto (s : _root_.Go.ChangeSpec) : _root_.Go.OpenSpec := { _root_.Go.OpenSpec.ofChange s with cond := some uptoSmall }

/-- 'laws.FnExactGoodGroup', WHERE WHAT IT READS IS OF BULK AT MOST 1048576: true; the input reads as it did. -/
def fnExactGoodGroupUptoRow : OpenClaim := { program := "ytkhbgdnhkaeamaa", sum := "71f0d9a1fc0b0a9af0a01ebeb26864a1daf6b0bc482cc7689ac3ce28b14fc803", func := "loop.example/g00361/laws.FnExactGoodGroup", spec := "fnExactGoodGroup", unfollowed := true, recurses := true, apart := false, narrowed := true }
def FnExactGoodGroupUptoSaid : Prop := fnExactGoodGroupUptoRow.holds Try.pinned (OpenSpec.upto fnExactGoodGroupSpec)

/-- 'laws.FnExactCommittedRows', WHERE WHAT IT READS IS OF BULK AT MOST 1048576: true; the input reads as it did. -/
def fnExactCommittedRowsUptoRow : OpenClaim := { program := "ytkhbgdnhkaeamaa", sum := "71f0d9a1fc0b0a9af0a01ebeb26864a1daf6b0bc482cc7689ac3ce28b14fc803", func := "loop.example/g00361/laws.FnExactCommittedRows", spec := "fnExactCommittedRows", unfollowed := true, recurses := true, apart := false, narrowed := true }
def FnExactCommittedRowsUptoSaid : Prop := fnExactCommittedRowsUptoRow.holds Try.pinned (OpenSpec.upto fnExactCommittedRowsSpec)

/-- 'laws.FnExactLagIn', WHERE WHAT IT READS IS OF BULK AT MOST 1048576: true; the input reads as it did. -/
def fnExactLagInUptoRow : OpenClaim := { program := "ytkhbgdnhkaeamaa", sum := "71f0d9a1fc0b0a9af0a01ebeb26864a1daf6b0bc482cc7689ac3ce28b14fc803", func := "loop.example/g00361/laws.FnExactLagIn", spec := "fnExactLagIn", unfollowed := true, recurses := true, apart := false, narrowed := true }
def FnExactLagInUptoSaid : Prop := fnExactLagInUptoRow.holds Try.pinned (OpenSpec.upto fnExactLagInSpec)

end Rows
end Go.Proofs.Ytkhbgdnhkaeamaa
