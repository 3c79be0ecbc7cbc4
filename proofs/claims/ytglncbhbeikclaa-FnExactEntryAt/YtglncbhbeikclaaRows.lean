/-
  No cell of these rows narrows 'for every input' (looked for: loops, veiled, ifaces, maps, wideKeys, modest, calm, conditions, laid).
  DERIVED. THE GIVEN ROWS OF THIS SEAT. 6 by the template 'for every input the law returns true; each argument reads behind the call as it read before'; 0 by the template 'total and deterministic' (their statements: YtglncbhbeikclaaTotals.lean).
  GIVEN WITH THE SEED: the statements are not yours to turn. If you find one false, say at which input.
  Laid BY PROGRAM, IN A SANDBOX (cutbox-rows.mjs): the forced cells as the released guide's own fill.sh prints them over the translation 5faf7d938749517f… (all of the seat's roots in one cut). By AI agents, Wed Nov 11 2026. No macro, syntax, notation, axiom, sorry.
-/
import Derived.Test.YtglncbhbeikclaaChecked
import GoSem.Claim
import GoSem.ClaimJoined
import GoSem.ClaimMapViews
import Derived.JoinedTies
import Derived.KernelRfl
namespace Go.Proofs.Ytglncbhbeikclaa
/- THE CELL 'sum', in the pinned program and in every row, IS THE sha256 OF THE DUMP (.gsa) THAT YtglncbhbeikclaaProg.lean LOADS. Nothing in Lean hashes anything: it is a label: what it is worth is what the hold of that sum in a sandbox is worth. -/
noncomputable def Try.pinned : Pinned := { name := "ytglncbhbeikclaa", sum := "5faf7d938749517f041cf882b67dc1e721b6573d6489c1125cad1bcd7a993e03", checked := Try.checked }
namespace Rows
def none {H : Type} : Left H := { results := [], args := [] }

/-- 'laws.FnExactNewRaft': WHATEVER THE INPUT: true; the input reads as it did. -/
def fnExactNewRaftSpec : ChangeSpec := { name := "fnExactNewRaft", fn := fun _ => fun
  | [d] => { results := [.lit (.bool true)], args := [d] }
  | _ => none }
def fnExactNewRaftRow : OpenClaim := { program := "ytglncbhbeikclaa", sum := "5faf7d938749517f041cf882b67dc1e721b6573d6489c1125cad1bcd7a993e03", func := "loop.example/g00361/laws.FnExactNewRaft", spec := "fnExactNewRaft", apart := false }
def FnExactNewRaftSaid : Prop := fnExactNewRaftRow.holds Try.pinned (OpenSpec.ofChange fnExactNewRaftSpec)

/-- ITS FALSE NEIGHBOUR: 'it returns false'. Refute it at one input. -/
def fnExactNewRaftWrong : ChangeSpec := { name := "fnExactNewRaft", fn := fun _ => fun
  | [d] => { results := [.lit (.bool false)], args := [d] }
  | _ => none }
def FnExactNewRaftWrongFalsely : Prop := fnExactNewRaftRow.holds Try.pinned (OpenSpec.ofChange fnExactNewRaftWrong)

/-- 'laws.FnExactGoodRaft': WHATEVER THE INPUT: true; the input reads as it did. -/
def fnExactGoodRaftSpec : ChangeSpec := { name := "fnExactGoodRaft", fn := fun _ => fun
  | [d] => { results := [.lit (.bool true)], args := [d] }
  | _ => none }
def fnExactGoodRaftRow : OpenClaim := { program := "ytglncbhbeikclaa", sum := "5faf7d938749517f041cf882b67dc1e721b6573d6489c1125cad1bcd7a993e03", func := "loop.example/g00361/laws.FnExactGoodRaft", spec := "fnExactGoodRaft", unfollowed := true, recurses := true, apart := false }
def FnExactGoodRaftSaid : Prop := fnExactGoodRaftRow.holds Try.pinned (OpenSpec.ofChange fnExactGoodRaftSpec)

/-- ITS FALSE NEIGHBOUR: 'it returns false'. Refute it at one input. -/
def fnExactGoodRaftWrong : ChangeSpec := { name := "fnExactGoodRaft", fn := fun _ => fun
  | [d] => { results := [.lit (.bool false)], args := [d] }
  | _ => none }
def FnExactGoodRaftWrongFalsely : Prop := fnExactGoodRaftRow.holds Try.pinned (OpenSpec.ofChange fnExactGoodRaftWrong)

/-- 'laws.FnExactCommittedIn': WHATEVER THE INPUT: true; the input reads as it did. -/
def fnExactCommittedInSpec : ChangeSpec := { name := "fnExactCommittedIn", fn := fun _ => fun
  | [d] => { results := [.lit (.bool true)], args := [d] }
  | _ => none }
def fnExactCommittedInRow : OpenClaim := { program := "ytglncbhbeikclaa", sum := "5faf7d938749517f041cf882b67dc1e721b6573d6489c1125cad1bcd7a993e03", func := "loop.example/g00361/laws.FnExactCommittedIn", spec := "fnExactCommittedIn", unfollowed := true, recurses := true, apart := false }
def FnExactCommittedInSaid : Prop := fnExactCommittedInRow.holds Try.pinned (OpenSpec.ofChange fnExactCommittedInSpec)

/-- ITS FALSE NEIGHBOUR: 'it returns false'. Refute it at one input. -/
def fnExactCommittedInWrong : ChangeSpec := { name := "fnExactCommittedIn", fn := fun _ => fun
  | [d] => { results := [.lit (.bool false)], args := [d] }
  | _ => none }
def FnExactCommittedInWrongFalsely : Prop := fnExactCommittedInRow.holds Try.pinned (OpenSpec.ofChange fnExactCommittedInWrong)

/-- 'laws.FnExactLogsMatch': WHATEVER THE INPUT: true; the input reads as it did. -/
def fnExactLogsMatchSpec : ChangeSpec := { name := "fnExactLogsMatch", fn := fun _ => fun
  | [d1, d2] => { results := [.lit (.bool true)], args := [d1, d2] }
  | _ => none }
def fnExactLogsMatchRow : OpenClaim := { program := "ytglncbhbeikclaa", sum := "5faf7d938749517f041cf882b67dc1e721b6573d6489c1125cad1bcd7a993e03", func := "loop.example/g00361/laws.FnExactLogsMatch", spec := "fnExactLogsMatch", unfollowed := true, recurses := true, apart := false }
def FnExactLogsMatchSaid : Prop := fnExactLogsMatchRow.holds Try.pinned (OpenSpec.ofChange fnExactLogsMatchSpec)

/-- ITS FALSE NEIGHBOUR: 'it returns false'. Refute it at one input. -/
def fnExactLogsMatchWrong : ChangeSpec := { name := "fnExactLogsMatch", fn := fun _ => fun
  | [d1, d2] => { results := [.lit (.bool false)], args := [d1, d2] }
  | _ => none }
def FnExactLogsMatchWrongFalsely : Prop := fnExactLogsMatchRow.holds Try.pinned (OpenSpec.ofChange fnExactLogsMatchWrong)

/-- 'laws.FnExactLeadersIn': WHATEVER THE INPUT: true; the input reads as it did. -/
def fnExactLeadersInSpec : ChangeSpec := { name := "fnExactLeadersIn", fn := fun _ => fun
  | [d] => { results := [.lit (.bool true)], args := [d] }
  | _ => none }
def fnExactLeadersInRow : OpenClaim := { program := "ytglncbhbeikclaa", sum := "5faf7d938749517f041cf882b67dc1e721b6573d6489c1125cad1bcd7a993e03", func := "loop.example/g00361/laws.FnExactLeadersIn", spec := "fnExactLeadersIn", unfollowed := true, recurses := true, apart := false }
def FnExactLeadersInSaid : Prop := fnExactLeadersInRow.holds Try.pinned (OpenSpec.ofChange fnExactLeadersInSpec)

/-- ITS FALSE NEIGHBOUR: 'it returns false'. Refute it at one input. -/
def fnExactLeadersInWrong : ChangeSpec := { name := "fnExactLeadersIn", fn := fun _ => fun
  | [d] => { results := [.lit (.bool false)], args := [d] }
  | _ => none }
def FnExactLeadersInWrongFalsely : Prop := fnExactLeadersInRow.holds Try.pinned (OpenSpec.ofChange fnExactLeadersInWrong)

/-- 'laws.FnExactEntryAt': WHATEVER THE INPUT: true; the input reads as it did. -/
def fnExactEntryAtSpec : ChangeSpec := { name := "fnExactEntryAt", fn := fun _ => fun
  | [d1, d2, d3] => { results := [.lit (.bool true)], args := [d1, d2, d3] }
  | _ => none }
def fnExactEntryAtRow : OpenClaim := { program := "ytglncbhbeikclaa", sum := "5faf7d938749517f041cf882b67dc1e721b6573d6489c1125cad1bcd7a993e03", func := "loop.example/g00361/laws.FnExactEntryAt", spec := "fnExactEntryAt", unfollowed := true, recurses := true, apart := false }
def FnExactEntryAtSaid : Prop := fnExactEntryAtRow.holds Try.pinned (OpenSpec.ofChange fnExactEntryAtSpec)

/-- ITS FALSE NEIGHBOUR: 'it returns false'. Refute it at one input. -/
def fnExactEntryAtWrong : ChangeSpec := { name := "fnExactEntryAt", fn := fun _ => fun
  | [d1, d2, d3] => { results := [.lit (.bool false)], args := [d1, d2, d3] }
  | _ => none }
def FnExactEntryAtWrongFalsely : Prop := fnExactEntryAtRow.holds Try.pinned (OpenSpec.ofChange fnExactEntryAtWrong)

/- THE SECOND FORM. 'bulk': how many values and letters a reading holds, each counted each time it is reached (what is shared counts as often as it is met; a slice's spare places count too). A statement '..UptoSaid' is the law's where the arguments, and the package variables that the reading takes, are together of bulk at most 1048576: NARROWER than '..Said'. Prove '..Said' where nothing that the law and all that it calls make is longer than what came in: it says more and counts as full. Else prove '..UptoSaid'. A law counts once. -/
mutual
def uptoBulk {H : Type} : DataW H → Nat
  | .lit (.string bytes) => bytes.length + 1
  | .lit _ => 1
  | .nil => 1
  | .ptr d => uptoBulk d + 1
  | .slice elems spare => uptoBulkAll elems + uptoBulkAll spare + 1
  | .agg parts => uptoBulkAll parts + 1
  | .iface _ d => uptoBulk d + 1
  | .map entries => uptoBulkEntries entries + 1
  | .held _ => 1
def uptoBulkAll {H : Type} : List (DataW H) → Nat
  | [] => 0
  | d :: r => uptoBulk d + uptoBulkAll r
def uptoBulkEntries {H : Type} : List (Lit × DataW H) → Nat
  | [] => 0
  | x :: r => uptoBulkEntry x + uptoBulkEntries r
def uptoBulkEntry {H : Type} : Lit × DataW H → Nat
  | (.string bytes, d) => bytes.length + uptoBulk d + 1
  | (_, d) => uptoBulk d + 1
 end
def uptoSmall : (H : Type) → List (DataW H) → Bool := fun _ ds => decide (uptoBulkAll ds ≤ 1048576)
def OpenSpec.upto (s : _root_.Go.ChangeSpec) : _root_.Go.OpenSpec := { _root_.Go.OpenSpec.ofChange s with cond := some uptoSmall }

/-- 'laws.FnExactNewRaft', WHERE WHAT IT READS IS OF BULK AT MOST 1048576: true; the input reads as it did. -/
def fnExactNewRaftUptoRow : OpenClaim := { program := "ytglncbhbeikclaa", sum := "5faf7d938749517f041cf882b67dc1e721b6573d6489c1125cad1bcd7a993e03", func := "loop.example/g00361/laws.FnExactNewRaft", spec := "fnExactNewRaft", apart := false, narrowed := true }
def FnExactNewRaftUptoSaid : Prop := fnExactNewRaftUptoRow.holds Try.pinned (OpenSpec.upto fnExactNewRaftSpec)

/-- 'laws.FnExactGoodRaft', WHERE WHAT IT READS IS OF BULK AT MOST 1048576: true; the input reads as it did. -/
def fnExactGoodRaftUptoRow : OpenClaim := { program := "ytglncbhbeikclaa", sum := "5faf7d938749517f041cf882b67dc1e721b6573d6489c1125cad1bcd7a993e03", func := "loop.example/g00361/laws.FnExactGoodRaft", spec := "fnExactGoodRaft", unfollowed := true, recurses := true, apart := false, narrowed := true }
def FnExactGoodRaftUptoSaid : Prop := fnExactGoodRaftUptoRow.holds Try.pinned (OpenSpec.upto fnExactGoodRaftSpec)

/-- 'laws.FnExactCommittedIn', WHERE WHAT IT READS IS OF BULK AT MOST 1048576: true; the input reads as it did. -/
def fnExactCommittedInUptoRow : OpenClaim := { program := "ytglncbhbeikclaa", sum := "5faf7d938749517f041cf882b67dc1e721b6573d6489c1125cad1bcd7a993e03", func := "loop.example/g00361/laws.FnExactCommittedIn", spec := "fnExactCommittedIn", unfollowed := true, recurses := true, apart := false, narrowed := true }
def FnExactCommittedInUptoSaid : Prop := fnExactCommittedInUptoRow.holds Try.pinned (OpenSpec.upto fnExactCommittedInSpec)

/-- 'laws.FnExactLogsMatch', WHERE WHAT IT READS IS OF BULK AT MOST 1048576: true; the input reads as it did. -/
def fnExactLogsMatchUptoRow : OpenClaim := { program := "ytglncbhbeikclaa", sum := "5faf7d938749517f041cf882b67dc1e721b6573d6489c1125cad1bcd7a993e03", func := "loop.example/g00361/laws.FnExactLogsMatch", spec := "fnExactLogsMatch", unfollowed := true, recurses := true, apart := false, narrowed := true }
def FnExactLogsMatchUptoSaid : Prop := fnExactLogsMatchUptoRow.holds Try.pinned (OpenSpec.upto fnExactLogsMatchSpec)

/-- 'laws.FnExactLeadersIn', WHERE WHAT IT READS IS OF BULK AT MOST 1048576: true; the input reads as it did. -/
def fnExactLeadersInUptoRow : OpenClaim := { program := "ytglncbhbeikclaa", sum := "5faf7d938749517f041cf882b67dc1e721b6573d6489c1125cad1bcd7a993e03", func := "loop.example/g00361/laws.FnExactLeadersIn", spec := "fnExactLeadersIn", unfollowed := true, recurses := true, apart := false, narrowed := true }
def FnExactLeadersInUptoSaid : Prop := fnExactLeadersInUptoRow.holds Try.pinned (OpenSpec.upto fnExactLeadersInSpec)

/-- 'laws.FnExactEntryAt', WHERE WHAT IT READS IS OF BULK AT MOST 1048576: true; the input reads as it did. -/
def fnExactEntryAtUptoRow : OpenClaim := { program := "ytglncbhbeikclaa", sum := "5faf7d938749517f041cf882b67dc1e721b6573d6489c1125cad1bcd7a993e03", func := "loop.example/g00361/laws.FnExactEntryAt", spec := "fnExactEntryAt", unfollowed := true, recurses := true, apart := false, narrowed := true }
def FnExactEntryAtUptoSaid : Prop := fnExactEntryAtUptoRow.holds Try.pinned (OpenSpec.upto fnExactEntryAtSpec)

end Rows
end Go.Proofs.Ytglncbhbeikclaa
