/-
  No cell of these rows narrows 'for every input' (looked for: loops, veiled, ifaces, maps, wideKeys, modest, calm, conditions, laid).
  DERIVED. THE GIVEN ROWS OF THIS SEAT. 6 by the template 'for every input the law returns true; each argument reads behind the call as it read before'; 0 by the template 'total and deterministic' (their statements: YtfehndedkffpfaaTotals.lean).
  GIVEN WITH THE SEED: the statements are not yours to turn. If you find one false, say at which input.
  Laid BY PROGRAM, IN A SANDBOX (cutbox-rows.mjs): the forced cells as the released guide's own fill.sh prints them over the translation 1801902ab470195d… (all of the seat's roots in one cut). By AI agents, Wed Nov 11 2026. No macro, syntax, notation, axiom, sorry.
-/
import Derived.Test.YtfehndedkffpfaaChecked
import GoSem.Claim
import GoSem.ClaimJoined
import GoSem.ClaimMapViews
import Derived.JoinedTies
import Derived.KernelRfl
namespace Go.Proofs.Ytfehndedkffpfaa
/- THE CELL 'sum', in the pinned program and in every row, IS THE sha256 OF THE DUMP (.gsa) THAT YtfehndedkffpfaaProg.lean LOADS. Nothing in Lean hashes anything: it is a label: what it is worth is what the hold of that sum in a sandbox is worth. -/
noncomputable def Try.pinned : Pinned := { name := "ytfehndedkffpfaa", sum := "1801902ab470195d8206df17966b76fc2d1506674f8374c5ea75763440b973c4", checked := Try.checked }
namespace Rows
def none {H : Type} : Left H := { results := [], args := [] }

/-- 'laws.FnExactNewControl': WHATEVER THE INPUT: true; the input reads as it did. -/
def fnExactNewControlSpec : ChangeSpec := { name := "fnExactNewControl", fn := fun _ => fun
  | [d] => { results := [.lit (.bool true)], args := [d] }
  | _ => none }
def fnExactNewControlRow : OpenClaim := { program := "ytfehndedkffpfaa", sum := "1801902ab470195d8206df17966b76fc2d1506674f8374c5ea75763440b973c4", func := "loop.example/g00361/laws.FnExactNewControl", spec := "fnExactNewControl", apart := false }
def FnExactNewControlSaid : Prop := fnExactNewControlRow.holds Try.pinned (OpenSpec.ofChange fnExactNewControlSpec)

/-- ITS FALSE NEIGHBOUR: 'it returns false'. Refute it at one input. -/
def fnExactNewControlWrong : ChangeSpec := { name := "fnExactNewControl", fn := fun _ => fun
  | [d] => { results := [.lit (.bool false)], args := [d] }
  | _ => none }
def FnExactNewControlWrongFalsely : Prop := fnExactNewControlRow.holds Try.pinned (OpenSpec.ofChange fnExactNewControlWrong)

/-- 'laws.FnExactGoodControl': WHATEVER THE INPUT: true; the input reads as it did. -/
def fnExactGoodControlSpec : ChangeSpec := { name := "fnExactGoodControl", fn := fun _ => fun
  | [d] => { results := [.lit (.bool true)], args := [d] }
  | _ => none }
def fnExactGoodControlRow : OpenClaim := { program := "ytfehndedkffpfaa", sum := "1801902ab470195d8206df17966b76fc2d1506674f8374c5ea75763440b973c4", func := "loop.example/g00361/laws.FnExactGoodControl", spec := "fnExactGoodControl", unfollowed := true, recurses := true, apart := false }
def FnExactGoodControlSaid : Prop := fnExactGoodControlRow.holds Try.pinned (OpenSpec.ofChange fnExactGoodControlSpec)

/-- ITS FALSE NEIGHBOUR: 'it returns false'. Refute it at one input. -/
def fnExactGoodControlWrong : ChangeSpec := { name := "fnExactGoodControl", fn := fun _ => fun
  | [d] => { results := [.lit (.bool false)], args := [d] }
  | _ => none }
def FnExactGoodControlWrongFalsely : Prop := fnExactGoodControlRow.holds Try.pinned (OpenSpec.ofChange fnExactGoodControlWrong)

/-- 'laws.FnExactDoCommand': WHATEVER THE INPUT: true; the input reads as it did. -/
def fnExactDoCommandSpec : ChangeSpec := { name := "fnExactDoCommand", fn := fun _ => fun
  | [d1, d2] => { results := [.lit (.bool true)], args := [d1, d2] }
  | _ => none }
def fnExactDoCommandRow : OpenClaim := { program := "ytfehndedkffpfaa", sum := "1801902ab470195d8206df17966b76fc2d1506674f8374c5ea75763440b973c4", func := "loop.example/g00361/laws.FnExactDoCommand", spec := "fnExactDoCommand", unfollowed := true, recurses := true, apart := false }
def FnExactDoCommandSaid : Prop := fnExactDoCommandRow.holds Try.pinned (OpenSpec.ofChange fnExactDoCommandSpec)

/-- ITS FALSE NEIGHBOUR: 'it returns false'. Refute it at one input. -/
def fnExactDoCommandWrong : ChangeSpec := { name := "fnExactDoCommand", fn := fun _ => fun
  | [d1, d2] => { results := [.lit (.bool false)], args := [d1, d2] }
  | _ => none }
def FnExactDoCommandWrongFalsely : Prop := fnExactDoCommandRow.holds Try.pinned (OpenSpec.ofChange fnExactDoCommandWrong)

/-- 'laws.FnExactPlayCommands': WHATEVER THE INPUT: true; the input reads as it did. -/
def fnExactPlayCommandsSpec : ChangeSpec := { name := "fnExactPlayCommands", fn := fun _ => fun
  | [d1, d2] => { results := [.lit (.bool true)], args := [d1, d2] }
  | _ => none }
def fnExactPlayCommandsRow : OpenClaim := { program := "ytfehndedkffpfaa", sum := "1801902ab470195d8206df17966b76fc2d1506674f8374c5ea75763440b973c4", func := "loop.example/g00361/laws.FnExactPlayCommands", spec := "fnExactPlayCommands", unfollowed := true, recurses := true, apart := false }
def FnExactPlayCommandsSaid : Prop := fnExactPlayCommandsRow.holds Try.pinned (OpenSpec.ofChange fnExactPlayCommandsSpec)

/-- ITS FALSE NEIGHBOUR: 'it returns false'. Refute it at one input. -/
def fnExactPlayCommandsWrong : ChangeSpec := { name := "fnExactPlayCommands", fn := fun _ => fun
  | [d1, d2] => { results := [.lit (.bool false)], args := [d1, d2] }
  | _ => none }
def FnExactPlayCommandsWrongFalsely : Prop := fnExactPlayCommandsRow.holds Try.pinned (OpenSpec.ofChange fnExactPlayCommandsWrong)

/-- 'laws.FnExactLeadsIn': WHATEVER THE INPUT: true; the input reads as it did. -/
def fnExactLeadsInSpec : ChangeSpec := { name := "fnExactLeadsIn", fn := fun _ => fun
  | [d1, d2] => { results := [.lit (.bool true)], args := [d1, d2] }
  | _ => none }
def fnExactLeadsInRow : OpenClaim := { program := "ytfehndedkffpfaa", sum := "1801902ab470195d8206df17966b76fc2d1506674f8374c5ea75763440b973c4", func := "loop.example/g00361/laws.FnExactLeadsIn", spec := "fnExactLeadsIn", unfollowed := true, recurses := true, apart := false }
def FnExactLeadsInSaid : Prop := fnExactLeadsInRow.holds Try.pinned (OpenSpec.ofChange fnExactLeadsInSpec)

/-- ITS FALSE NEIGHBOUR: 'it returns false'. Refute it at one input. -/
def fnExactLeadsInWrong : ChangeSpec := { name := "fnExactLeadsIn", fn := fun _ => fun
  | [d1, d2] => { results := [.lit (.bool false)], args := [d1, d2] }
  | _ => none }
def FnExactLeadsInWrongFalsely : Prop := fnExactLeadsInRow.holds Try.pinned (OpenSpec.ofChange fnExactLeadsInWrong)

/-- 'laws.FnExactOfflineParts': WHATEVER THE INPUT: true; the input reads as it did. -/
def fnExactOfflinePartsSpec : ChangeSpec := { name := "fnExactOfflineParts", fn := fun _ => fun
  | [d] => { results := [.lit (.bool true)], args := [d] }
  | _ => none }
def fnExactOfflinePartsRow : OpenClaim := { program := "ytfehndedkffpfaa", sum := "1801902ab470195d8206df17966b76fc2d1506674f8374c5ea75763440b973c4", func := "loop.example/g00361/laws.FnExactOfflineParts", spec := "fnExactOfflineParts", unfollowed := true, recurses := true, apart := false }
def FnExactOfflinePartsSaid : Prop := fnExactOfflinePartsRow.holds Try.pinned (OpenSpec.ofChange fnExactOfflinePartsSpec)

/-- ITS FALSE NEIGHBOUR: 'it returns false'. Refute it at one input. -/
def fnExactOfflinePartsWrong : ChangeSpec := { name := "fnExactOfflineParts", fn := fun _ => fun
  | [d] => { results := [.lit (.bool false)], args := [d] }
  | _ => none }
def FnExactOfflinePartsWrongFalsely : Prop := fnExactOfflinePartsRow.holds Try.pinned (OpenSpec.ofChange fnExactOfflinePartsWrong)

/- THE SECOND FORM. 'bulk': how many values and letters a reading holds, each counted each time it is reached (what is shared counts as often as it is met; a slice's spare places count too). A statement '..UptoSaid' is the law's where the arguments, and the package variables that the reading takes, are together of bulk at most 1048576: NARROWER than '..Said'. Prove '..Said' where nothing that the law and all that it calls make is longer than what came in: it says more and counts as full. Else prove '..UptoSaid'. A law counts once. -/
mutual
def uptoBulk {H : Type} : DataW H → Nat
  | .lit (.string bytes) => bytes.length + 1
  | .lit _ => 1
  | .nil => 1
  | .ptr d => uptoBulk d + 1
  | .slice elems spare => uptoBulkAll elems + uptoBulkAll spare + 1
  | .agg parts => uptoBulkAll parts + 1
  | .iface _ d => uptoBulk d + 1
  | .map entries => uptoBulkEntries entries + 1
  | .held _ => 1
def uptoBulkAll {H : Type} : List (DataW H) → Nat
  | [] => 0
  | d :: r => uptoBulk d + uptoBulkAll r
def uptoBulkEntries {H : Type} : List (Lit × DataW H) → Nat
  | [] => 0
  | x :: r => uptoBulkEntry x + uptoBulkEntries r
def uptoBulkEntry {H : Type} : Lit × DataW H → Nat
  | (.string bytes, d) => bytes.length + uptoBulk d + 1
  | (_, d) => uptoBulk d + 1
 end
def uptoSmall : (H : Type) → List (DataW H) → Bool := fun _ ds => decide (uptoBulkAll ds ≤ 1048576)
def OpenSpec.upto (s : _root_.Go.ChangeSpec) : _root_.Go.OpenSpec := { _root_.Go.OpenSpec.ofChange s with cond := some uptoSmall }

/-- 'laws.FnExactNewControl', WHERE WHAT IT READS IS OF BULK AT MOST 1048576: true; the input reads as it did. -/
def fnExactNewControlUptoRow : OpenClaim := { program := "ytfehndedkffpfaa", sum := "1801902ab470195d8206df17966b76fc2d1506674f8374c5ea75763440b973c4", func := "loop.example/g00361/laws.FnExactNewControl", spec := "fnExactNewControl", apart := false, narrowed := true }
def FnExactNewControlUptoSaid : Prop := fnExactNewControlUptoRow.holds Try.pinned (OpenSpec.upto fnExactNewControlSpec)

/-- 'laws.FnExactGoodControl', WHERE WHAT IT READS IS OF BULK AT MOST 1048576: true; the input reads as it did. -/
def fnExactGoodControlUptoRow : OpenClaim := { program := "ytfehndedkffpfaa", sum := "1801902ab470195d8206df17966b76fc2d1506674f8374c5ea75763440b973c4", func := "loop.example/g00361/laws.FnExactGoodControl", spec := "fnExactGoodControl", unfollowed := true, recurses := true, apart := false, narrowed := true }
def FnExactGoodControlUptoSaid : Prop := fnExactGoodControlUptoRow.holds Try.pinned (OpenSpec.upto fnExactGoodControlSpec)

/-- 'laws.FnExactDoCommand', WHERE WHAT IT READS IS OF BULK AT MOST 1048576: true; the input reads as it did. -/
def fnExactDoCommandUptoRow : OpenClaim := { program := "ytfehndedkffpfaa", sum := "1801902ab470195d8206df17966b76fc2d1506674f8374c5ea75763440b973c4", func := "loop.example/g00361/laws.FnExactDoCommand", spec := "fnExactDoCommand", unfollowed := true, recurses := true, apart := false, narrowed := true }
def FnExactDoCommandUptoSaid : Prop := fnExactDoCommandUptoRow.holds Try.pinned (OpenSpec.upto fnExactDoCommandSpec)

/-- 'laws.FnExactPlayCommands', WHERE WHAT IT READS IS OF BULK AT MOST 1048576: true; the input reads as it did. -/
def fnExactPlayCommandsUptoRow : OpenClaim := { program := "ytfehndedkffpfaa", sum := "1801902ab470195d8206df17966b76fc2d1506674f8374c5ea75763440b973c4", func := "loop.example/g00361/laws.FnExactPlayCommands", spec := "fnExactPlayCommands", unfollowed := true, recurses := true, apart := false, narrowed := true }
def FnExactPlayCommandsUptoSaid : Prop := fnExactPlayCommandsUptoRow.holds Try.pinned (OpenSpec.upto fnExactPlayCommandsSpec)

/-- 'laws.FnExactLeadsIn', WHERE WHAT IT READS IS OF BULK AT MOST 1048576: true; the input reads as it did. -/
def fnExactLeadsInUptoRow : OpenClaim := { program := "ytfehndedkffpfaa", sum := "1801902ab470195d8206df17966b76fc2d1506674f8374c5ea75763440b973c4", func := "loop.example/g00361/laws.FnExactLeadsIn", spec := "fnExactLeadsIn", unfollowed := true, recurses := true, apart := false, narrowed := true }
def FnExactLeadsInUptoSaid : Prop := fnExactLeadsInUptoRow.holds Try.pinned (OpenSpec.upto fnExactLeadsInSpec)

/-- 'laws.FnExactOfflineParts', WHERE WHAT IT READS IS OF BULK AT MOST 1048576: true; the input reads as it did. -/
def fnExactOfflinePartsUptoRow : OpenClaim := { program := "ytfehndedkffpfaa", sum := "1801902ab470195d8206df17966b76fc2d1506674f8374c5ea75763440b973c4", func := "loop.example/g00361/laws.FnExactOfflineParts", spec := "fnExactOfflineParts", unfollowed := true, recurses := true, apart := false, narrowed := true }
def FnExactOfflinePartsUptoSaid : Prop := fnExactOfflinePartsUptoRow.holds Try.pinned (OpenSpec.upto fnExactOfflinePartsSpec)

end Rows
end Go.Proofs.Ytfehndedkffpfaa
