/-
  NARROWER THAN 'FOR EVERY INPUT', by the rows' own cells (each row's printed sentence says how): FnExactIsQuorum: laid · FnExactLeastQuorums: laid · FnExactBlocksOf: laid · FnExactGridQuorums: laid · FnExactReadWrite: laid.
  DERIVED. THE GIVEN ROWS OF THIS SEAT. 5 by the template 'for every input the law returns true; each argument reads behind the call as it read before'; 0 by the template 'total and deterministic' (their statements: YtifahambpgnedaaDoorTotals.lean).
  GIVEN WITH THE SEED: the statements are not yours to turn. If you find one false, say at which input.
  Laid BY PROGRAM, IN A SANDBOX (cutbox-rows.mjs): the forced cells as the released guide's own fill.sh prints them over the translation cad8cc3a700aa998… (all of the seat's roots in one cut). By AI agents, Wed Nov 11 2026. No macro, syntax, notation, axiom, sorry.
-/
import Derived.Test.YtifahambpgnedaaDoorChecked
import GoSem.Claim
import GoSem.ClaimJoined
import GoSem.ClaimMapViews
import Derived.JoinedTies
import Derived.KernelRfl
namespace Go.Proofs.YtifahambpgnedaaDoor
/- THE CELL 'sum', in the pinned program and in every row, IS THE sha256 OF THE DUMP (.gsa) THAT YtifahambpgnedaaDoorProg.lean LOADS. Nothing in Lean hashes anything: it is a label: what it is worth is what the hold of that sum in a sandbox is worth. -/
noncomputable def Tryd.pinned : Pinned := { name := "ytifahambpgnedaadoor", sum := "cad8cc3a700aa998ec8e2a6d73a78e2fdaa3a76e5779b86580b13e2d14c86aee", checked := Tryd.checked }
namespace Rows
def none {H : Type} : Left H := { results := [], args := [] }

/- WHAT THE LISTED PACKAGE-LEVEL VARIABLES READ AS WHEN THE CALL BEGINS. Each datum BY PROGRAM (the guide's laid-datum.mjs) off the statement by which the dump's own 'gosem.cut.vars' lays the variable. In a bare row this is a premise. The card (YtifahambpgnedaaDoorCards.lean) ties it to the program's text. -/
def laid_math_bits_deBruijn32tab {H : Type} : DataW H := .agg [.lit (.int .u8 0), .lit (.int .u8 1), .lit (.int .u8 28), .lit (.int .u8 2), .lit (.int .u8 29), .lit (.int .u8 14), .lit (.int .u8 24), .lit (.int .u8 3), .lit (.int .u8 30), .lit (.int .u8 22), .lit (.int .u8 20), .lit (.int .u8 15), .lit (.int .u8 25), .lit (.int .u8 17), .lit (.int .u8 4), .lit (.int .u8 8), .lit (.int .u8 31), .lit (.int .u8 27), .lit (.int .u8 13), .lit (.int .u8 23), .lit (.int .u8 21), .lit (.int .u8 19), .lit (.int .u8 16), .lit (.int .u8 7), .lit (.int .u8 26), .lit (.int .u8 12), .lit (.int .u8 18), .lit (.int .u8 6), .lit (.int .u8 11), .lit (.int .u8 5), .lit (.int .u8 10), .lit (.int .u8 9)]
def laid_math_bits_deBruijn64tab {H : Type} : DataW H := .agg [.lit (.int .u8 0), .lit (.int .u8 1), .lit (.int .u8 56), .lit (.int .u8 2), .lit (.int .u8 57), .lit (.int .u8 49), .lit (.int .u8 28), .lit (.int .u8 3), .lit (.int .u8 61), .lit (.int .u8 58), .lit (.int .u8 42), .lit (.int .u8 50), .lit (.int .u8 38), .lit (.int .u8 29), .lit (.int .u8 17), .lit (.int .u8 4), .lit (.int .u8 62), .lit (.int .u8 47), .lit (.int .u8 59), .lit (.int .u8 36), .lit (.int .u8 45), .lit (.int .u8 43), .lit (.int .u8 51), .lit (.int .u8 22), .lit (.int .u8 53), .lit (.int .u8 39), .lit (.int .u8 33), .lit (.int .u8 30), .lit (.int .u8 24), .lit (.int .u8 18), .lit (.int .u8 12), .lit (.int .u8 5), .lit (.int .u8 63), .lit (.int .u8 55), .lit (.int .u8 48), .lit (.int .u8 27), .lit (.int .u8 60), .lit (.int .u8 41), .lit (.int .u8 37), .lit (.int .u8 16), .lit (.int .u8 46), .lit (.int .u8 35), .lit (.int .u8 44), .lit (.int .u8 21), .lit (.int .u8 52), .lit (.int .u8 32), .lit (.int .u8 23), .lit (.int .u8 11), .lit (.int .u8 54), .lit (.int .u8 26), .lit (.int .u8 40), .lit (.int .u8 15), .lit (.int .u8 34), .lit (.int .u8 20), .lit (.int .u8 31), .lit (.int .u8 10), .lit (.int .u8 25), .lit (.int .u8 14), .lit (.int .u8 19), .lit (.int .u8 9), .lit (.int .u8 13), .lit (.int .u8 8), .lit (.int .u8 7), .lit (.int .u8 6)]

/-- 'laws.FnExactIsQuorum': WHATEVER THE INPUT: true; the input reads as it did. -/
def fnExactIsQuorumSpec : ChangeSpec := { name := "fnExactIsQuorum", fn := fun _ => fun
  | [d1, d2] => { results := [.lit (.bool true)], args := [d1, d2] }
  | _ => none }
def fnExactIsQuorumRow : OpenClaim := { program := "ytifahambpgnedaadoor", sum := "cad8cc3a700aa998ec8e2a6d73a78e2fdaa3a76e5779b86580b13e2d14c86aee", func := "loop.example/g00361/laws.FnExactIsQuorum", spec := "fnExactIsQuorum", named := ["math/bits.deBruijn32tab", "math/bits.deBruijn64tab"], apart := false, laid := [("math/bits.deBruijn32tab", laid_math_bits_deBruijn32tab), ("math/bits.deBruijn64tab", laid_math_bits_deBruijn64tab)] }
def FnExactIsQuorumSaid : Prop := fnExactIsQuorumRow.holds Tryd.pinned (OpenSpec.ofChange fnExactIsQuorumSpec)

/-- ITS FALSE NEIGHBOUR: 'it returns false'. Refute it at one input. -/
def fnExactIsQuorumWrong : ChangeSpec := { name := "fnExactIsQuorum", fn := fun _ => fun
  | [d1, d2] => { results := [.lit (.bool false)], args := [d1, d2] }
  | _ => none }
def FnExactIsQuorumWrongFalsely : Prop := fnExactIsQuorumRow.holds Tryd.pinned (OpenSpec.ofChange fnExactIsQuorumWrong)

/-- 'laws.FnExactLeastQuorums': WHATEVER THE INPUT: true; the input reads as it did. -/
def fnExactLeastQuorumsSpec : ChangeSpec := { name := "fnExactLeastQuorums", fn := fun _ => fun
  | [d] => { results := [.lit (.bool true)], args := [d] }
  | _ => none }
def fnExactLeastQuorumsRow : OpenClaim := { program := "ytifahambpgnedaadoor", sum := "cad8cc3a700aa998ec8e2a6d73a78e2fdaa3a76e5779b86580b13e2d14c86aee", func := "loop.example/g00361/laws.FnExactLeastQuorums", spec := "fnExactLeastQuorums", unfollowed := true, recurses := true, named := ["math/bits.deBruijn32tab", "math/bits.deBruijn64tab"], apart := false, laid := [("math/bits.deBruijn32tab", laid_math_bits_deBruijn32tab), ("math/bits.deBruijn64tab", laid_math_bits_deBruijn64tab)] }
def FnExactLeastQuorumsSaid : Prop := fnExactLeastQuorumsRow.holds Tryd.pinned (OpenSpec.ofChange fnExactLeastQuorumsSpec)

/-- ITS FALSE NEIGHBOUR: 'it returns false'. Refute it at one input. -/
def fnExactLeastQuorumsWrong : ChangeSpec := { name := "fnExactLeastQuorums", fn := fun _ => fun
  | [d] => { results := [.lit (.bool false)], args := [d] }
  | _ => none }
def FnExactLeastQuorumsWrongFalsely : Prop := fnExactLeastQuorumsRow.holds Tryd.pinned (OpenSpec.ofChange fnExactLeastQuorumsWrong)

/-- 'laws.FnExactBlocksOf': WHATEVER THE INPUT: true; the input reads as it did. -/
def fnExactBlocksOfSpec : ChangeSpec := { name := "fnExactBlocksOf", fn := fun _ => fun
  | [d1, d2] => { results := [.lit (.bool true)], args := [d1, d2] }
  | _ => none }
def fnExactBlocksOfRow : OpenClaim := { program := "ytifahambpgnedaadoor", sum := "cad8cc3a700aa998ec8e2a6d73a78e2fdaa3a76e5779b86580b13e2d14c86aee", func := "loop.example/g00361/laws.FnExactBlocksOf", spec := "fnExactBlocksOf", unfollowed := true, recurses := true, named := ["math/bits.deBruijn32tab", "math/bits.deBruijn64tab"], apart := false, laid := [("math/bits.deBruijn32tab", laid_math_bits_deBruijn32tab), ("math/bits.deBruijn64tab", laid_math_bits_deBruijn64tab)] }
def FnExactBlocksOfSaid : Prop := fnExactBlocksOfRow.holds Tryd.pinned (OpenSpec.ofChange fnExactBlocksOfSpec)

/-- ITS FALSE NEIGHBOUR: 'it returns false'. Refute it at one input. -/
def fnExactBlocksOfWrong : ChangeSpec := { name := "fnExactBlocksOf", fn := fun _ => fun
  | [d1, d2] => { results := [.lit (.bool false)], args := [d1, d2] }
  | _ => none }
def FnExactBlocksOfWrongFalsely : Prop := fnExactBlocksOfRow.holds Tryd.pinned (OpenSpec.ofChange fnExactBlocksOfWrong)

/-- 'laws.FnExactGridQuorums': WHATEVER THE INPUT: true; the input reads as it did. -/
def fnExactGridQuorumsSpec : ChangeSpec := { name := "fnExactGridQuorums", fn := fun _ => fun
  | [d1, d2] => { results := [.lit (.bool true)], args := [d1, d2] }
  | _ => none }
def fnExactGridQuorumsRow : OpenClaim := { program := "ytifahambpgnedaadoor", sum := "cad8cc3a700aa998ec8e2a6d73a78e2fdaa3a76e5779b86580b13e2d14c86aee", func := "loop.example/g00361/laws.FnExactGridQuorums", spec := "fnExactGridQuorums", named := ["math/bits.deBruijn32tab", "math/bits.deBruijn64tab"], apart := false, laid := [("math/bits.deBruijn32tab", laid_math_bits_deBruijn32tab), ("math/bits.deBruijn64tab", laid_math_bits_deBruijn64tab)] }
def FnExactGridQuorumsSaid : Prop := fnExactGridQuorumsRow.holds Tryd.pinned (OpenSpec.ofChange fnExactGridQuorumsSpec)

/-- ITS FALSE NEIGHBOUR: 'it returns false'. Refute it at one input. -/
def fnExactGridQuorumsWrong : ChangeSpec := { name := "fnExactGridQuorums", fn := fun _ => fun
  | [d1, d2] => { results := [.lit (.bool false)], args := [d1, d2] }
  | _ => none }
def FnExactGridQuorumsWrongFalsely : Prop := fnExactGridQuorumsRow.holds Tryd.pinned (OpenSpec.ofChange fnExactGridQuorumsWrong)

/-- 'laws.FnExactReadWrite': WHATEVER THE INPUT: true; the input reads as it did. -/
def fnExactReadWriteSpec : ChangeSpec := { name := "fnExactReadWrite", fn := fun _ => fun
  | [d1, d2, d3] => { results := [.lit (.bool true)], args := [d1, d2, d3] }
  | _ => none }
def fnExactReadWriteRow : OpenClaim := { program := "ytifahambpgnedaadoor", sum := "cad8cc3a700aa998ec8e2a6d73a78e2fdaa3a76e5779b86580b13e2d14c86aee", func := "loop.example/g00361/laws.FnExactReadWrite", spec := "fnExactReadWrite", named := ["math/bits.deBruijn32tab", "math/bits.deBruijn64tab"], apart := false, laid := [("math/bits.deBruijn32tab", laid_math_bits_deBruijn32tab), ("math/bits.deBruijn64tab", laid_math_bits_deBruijn64tab)] }
def FnExactReadWriteSaid : Prop := fnExactReadWriteRow.holds Tryd.pinned (OpenSpec.ofChange fnExactReadWriteSpec)

/-- ITS FALSE NEIGHBOUR: 'it returns false'. Refute it at one input. -/
def fnExactReadWriteWrong : ChangeSpec := { name := "fnExactReadWrite", fn := fun _ => fun
  | [d1, d2, d3] => { results := [.lit (.bool false)], args := [d1, d2, d3] }
  | _ => none }
def FnExactReadWriteWrongFalsely : Prop := fnExactReadWriteRow.holds Tryd.pinned (OpenSpec.ofChange fnExactReadWriteWrong)

/- THE SECOND FORM. 'bulk': how many values and letters a reading holds, each counted each time it is reached (what is shared counts as often as it is met; a slice's spare places count too). A statement '..UptoSaid' is the law's where the arguments, and the package variables that the reading takes, are together of bulk at most 1048576: NARROWER than '..Said'. Prove '..Said' where nothing that the law and all that it calls make is longer than what came in: it says more and counts as full. Else prove '..UptoSaid'. A law counts once. -/
mutual
def uptoBulk {H : Type} : DataW H → Nat
  | .lit (.string bytes) => bytes.length + 1
  | .lit _ => 1
  | .nil => 1
  | .ptr d => uptoBulk d + 1
  | .slice elems spare => uptoBulkAll elems + uptoBulkAll spare + 1
  | .agg parts => uptoBulkAll parts + 1
  | .iface _ d => uptoBulk d + 1
  | .map entries => uptoBulkEntries entries + 1
  | .held _ => 1
def uptoBulkAll {H : Type} : List (DataW H) → Nat
  | [] => 0
  | d :: r => uptoBulk d + uptoBulkAll r
def uptoBulkEntries {H : Type} : List (Lit × DataW H) → Nat
  | [] => 0
  | x :: r => uptoBulkEntry x + uptoBulkEntries r
def uptoBulkEntry {H : Type} : Lit × DataW H → Nat
  | (.string bytes, d) => bytes.length + uptoBulk d + 1
  | (_, d) => uptoBulk d + 1
 end
def uptoSmall : (H : Type) → List (DataW H) → Bool := fun _ ds => decide (uptoBulkAll ds ≤ 1048576)
def OpenSpec.upto (s : _root_.Go.ChangeSpec) : _root_.Go.OpenSpec := { _root_.Go.OpenSpec.ofChange s with cond := some uptoSmall }

/-- 'laws.FnExactIsQuorum', WHERE WHAT IT READS IS OF BULK AT MOST 1048576: true; the input reads as it did. -/
def fnExactIsQuorumUptoRow : OpenClaim := { program := "ytifahambpgnedaadoor", sum := "cad8cc3a700aa998ec8e2a6d73a78e2fdaa3a76e5779b86580b13e2d14c86aee", func := "loop.example/g00361/laws.FnExactIsQuorum", spec := "fnExactIsQuorum", named := ["math/bits.deBruijn32tab", "math/bits.deBruijn64tab"], apart := false, laid := [("math/bits.deBruijn32tab", laid_math_bits_deBruijn32tab), ("math/bits.deBruijn64tab", laid_math_bits_deBruijn64tab)], narrowed := true }
def FnExactIsQuorumUptoSaid : Prop := fnExactIsQuorumUptoRow.holds Tryd.pinned (OpenSpec.upto fnExactIsQuorumSpec)

/-- 'laws.FnExactLeastQuorums', WHERE WHAT IT READS IS OF BULK AT MOST 1048576: true; the input reads as it did. -/
def fnExactLeastQuorumsUptoRow : OpenClaim := { program := "ytifahambpgnedaadoor", sum := "cad8cc3a700aa998ec8e2a6d73a78e2fdaa3a76e5779b86580b13e2d14c86aee", func := "loop.example/g00361/laws.FnExactLeastQuorums", spec := "fnExactLeastQuorums", unfollowed := true, recurses := true, named := ["math/bits.deBruijn32tab", "math/bits.deBruijn64tab"], apart := false, laid := [("math/bits.deBruijn32tab", laid_math_bits_deBruijn32tab), ("math/bits.deBruijn64tab", laid_math_bits_deBruijn64tab)], narrowed := true }
def FnExactLeastQuorumsUptoSaid : Prop := fnExactLeastQuorumsUptoRow.holds Tryd.pinned (OpenSpec.upto fnExactLeastQuorumsSpec)

/-- 'laws.FnExactBlocksOf', WHERE WHAT IT READS IS OF BULK AT MOST 1048576: true; the input reads as it did. -/
def fnExactBlocksOfUptoRow : OpenClaim := { program := "ytifahambpgnedaadoor", sum := "cad8cc3a700aa998ec8e2a6d73a78e2fdaa3a76e5779b86580b13e2d14c86aee", func := "loop.example/g00361/laws.FnExactBlocksOf", spec := "fnExactBlocksOf", unfollowed := true, recurses := true, named := ["math/bits.deBruijn32tab", "math/bits.deBruijn64tab"], apart := false, laid := [("math/bits.deBruijn32tab", laid_math_bits_deBruijn32tab), ("math/bits.deBruijn64tab", laid_math_bits_deBruijn64tab)], narrowed := true }
def FnExactBlocksOfUptoSaid : Prop := fnExactBlocksOfUptoRow.holds Tryd.pinned (OpenSpec.upto fnExactBlocksOfSpec)

/-- 'laws.FnExactGridQuorums', WHERE WHAT IT READS IS OF BULK AT MOST 1048576: true; the input reads as it did. -/
def fnExactGridQuorumsUptoRow : OpenClaim := { program := "ytifahambpgnedaadoor", sum := "cad8cc3a700aa998ec8e2a6d73a78e2fdaa3a76e5779b86580b13e2d14c86aee", func := "loop.example/g00361/laws.FnExactGridQuorums", spec := "fnExactGridQuorums", named := ["math/bits.deBruijn32tab", "math/bits.deBruijn64tab"], apart := false, laid := [("math/bits.deBruijn32tab", laid_math_bits_deBruijn32tab), ("math/bits.deBruijn64tab", laid_math_bits_deBruijn64tab)], narrowed := true }
def FnExactGridQuorumsUptoSaid : Prop := fnExactGridQuorumsUptoRow.holds Tryd.pinned (OpenSpec.upto fnExactGridQuorumsSpec)

/-- 'laws.FnExactReadWrite', WHERE WHAT IT READS IS OF BULK AT MOST 1048576: true; the input reads as it did. -/
def fnExactReadWriteUptoRow : OpenClaim := { program := "ytifahambpgnedaadoor", sum := "cad8cc3a700aa998ec8e2a6d73a78e2fdaa3a76e5779b86580b13e2d14c86aee", func := "loop.example/g00361/laws.FnExactReadWrite", spec := "fnExactReadWrite", named := ["math/bits.deBruijn32tab", "math/bits.deBruijn64tab"], apart := false, laid := [("math/bits.deBruijn32tab", laid_math_bits_deBruijn32tab), ("math/bits.deBruijn64tab", laid_math_bits_deBruijn64tab)], narrowed := true }
def FnExactReadWriteUptoSaid : Prop := fnExactReadWriteUptoRow.holds Tryd.pinned (OpenSpec.upto fnExactReadWriteSpec)

end Rows
end Go.Proofs.YtifahambpgnedaaDoor
