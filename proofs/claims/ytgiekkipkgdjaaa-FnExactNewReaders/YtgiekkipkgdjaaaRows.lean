/-
  No cell of these rows narrows 'for every input' (looked for: loops, veiled, ifaces, maps, wideKeys, modest, calm, conditions, laid).
  DERIVED. THE GIVEN ROWS OF THIS SEAT. 7 by the template 'for every input the law returns true; each argument reads behind the call as it read before'; 0 by the template 'total and deterministic' (their statements: YtgiekkipkgdjaaaTotals.lean).
  GIVEN WITH THE SEED: the statements are not yours to turn. If you find one false, say at which input.
  Laid BY PROGRAM, IN A SANDBOX (cutbox-rows.mjs): the forced cells as the released guide's own fill.sh prints them over the translation 2ad16bc425d957d7… (all of the seat's roots in one cut). By AI agents, Wed Nov 11 2026. No macro, syntax, notation, axiom, sorry.
-/
import Derived.Test.YtgiekkipkgdjaaaChecked
import GoSem.Claim
import GoSem.ClaimJoined
import GoSem.ClaimMapViews
import Derived.JoinedTies
import Derived.KernelRfl
namespace Go.Proofs.Ytgiekkipkgdjaaa
/- THE CELL 'sum', in the pinned program and in every row, IS THE sha256 OF THE DUMP (.gsa) THAT YtgiekkipkgdjaaaProg.lean LOADS. Nothing in Lean hashes anything: it is a label: what it is worth is what the hold of that sum in a sandbox is worth. -/
noncomputable def Try.pinned : Pinned := { name := "ytgiekkipkgdjaaa", sum := "2ad16bc425d957d726946d37676eec8b60e85c80e96d0c1fe0ed7c8d7dbb35c3", checked := Try.checked }
namespace Rows
def none {H : Type} : Left H := { results := [], args := [] }

/-- 'laws.FnExactNewReaders': WHATEVER THE INPUT: true; the input reads as it did. -/
def fnExactNewReadersSpec : ChangeSpec := { name := "fnExactNewReaders", fn := fun _ => fun
  | [d1, d2] => { results := [.lit (.bool true)], args := [d1, d2] }
  | _ => none }
def fnExactNewReadersRow : OpenClaim := { program := "ytgiekkipkgdjaaa", sum := "2ad16bc425d957d726946d37676eec8b60e85c80e96d0c1fe0ed7c8d7dbb35c3", func := "loop.example/g00361/laws.FnExactNewReaders", spec := "fnExactNewReaders", apart := false }
def FnExactNewReadersSaid : Prop := fnExactNewReadersRow.holds Try.pinned (OpenSpec.ofChange fnExactNewReadersSpec)

/-- ITS FALSE NEIGHBOUR: 'it returns false'. Refute it at one input. -/
def fnExactNewReadersWrong : ChangeSpec := { name := "fnExactNewReaders", fn := fun _ => fun
  | [d1, d2] => { results := [.lit (.bool false)], args := [d1, d2] }
  | _ => none }
def FnExactNewReadersWrongFalsely : Prop := fnExactNewReadersRow.holds Try.pinned (OpenSpec.ofChange fnExactNewReadersWrong)

/-- 'laws.FnExactGoodReaders': WHATEVER THE INPUT: true; the input reads as it did. -/
def fnExactGoodReadersSpec : ChangeSpec := { name := "fnExactGoodReaders", fn := fun _ => fun
  | [d] => { results := [.lit (.bool true)], args := [d] }
  | _ => none }
def fnExactGoodReadersRow : OpenClaim := { program := "ytgiekkipkgdjaaa", sum := "2ad16bc425d957d726946d37676eec8b60e85c80e96d0c1fe0ed7c8d7dbb35c3", func := "loop.example/g00361/laws.FnExactGoodReaders", spec := "fnExactGoodReaders", unfollowed := true, recurses := true, apart := false }
def FnExactGoodReadersSaid : Prop := fnExactGoodReadersRow.holds Try.pinned (OpenSpec.ofChange fnExactGoodReadersSpec)

/-- ITS FALSE NEIGHBOUR: 'it returns false'. Refute it at one input. -/
def fnExactGoodReadersWrong : ChangeSpec := { name := "fnExactGoodReaders", fn := fun _ => fun
  | [d] => { results := [.lit (.bool false)], args := [d] }
  | _ => none }
def FnExactGoodReadersWrongFalsely : Prop := fnExactGoodReadersRow.holds Try.pinned (OpenSpec.ofChange fnExactGoodReadersWrong)

/-- 'laws.FnExactStepReaders': WHATEVER THE INPUT: true; the input reads as it did. -/
def fnExactStepReadersSpec : ChangeSpec := { name := "fnExactStepReaders", fn := fun _ => fun
  | [d1, d2] => { results := [.lit (.bool true)], args := [d1, d2] }
  | _ => none }
def fnExactStepReadersRow : OpenClaim := { program := "ytgiekkipkgdjaaa", sum := "2ad16bc425d957d726946d37676eec8b60e85c80e96d0c1fe0ed7c8d7dbb35c3", func := "loop.example/g00361/laws.FnExactStepReaders", spec := "fnExactStepReaders", unfollowed := true, recurses := true, apart := false }
def FnExactStepReadersSaid : Prop := fnExactStepReadersRow.holds Try.pinned (OpenSpec.ofChange fnExactStepReadersSpec)

/-- ITS FALSE NEIGHBOUR: 'it returns false'. Refute it at one input. -/
def fnExactStepReadersWrong : ChangeSpec := { name := "fnExactStepReaders", fn := fun _ => fun
  | [d1, d2] => { results := [.lit (.bool false)], args := [d1, d2] }
  | _ => none }
def FnExactStepReadersWrongFalsely : Prop := fnExactStepReadersRow.holds Try.pinned (OpenSpec.ofChange fnExactStepReadersWrong)

/-- 'laws.FnExactPlayReaders': WHATEVER THE INPUT: true; the input reads as it did. -/
def fnExactPlayReadersSpec : ChangeSpec := { name := "fnExactPlayReaders", fn := fun _ => fun
  | [d1, d2, d3] => { results := [.lit (.bool true)], args := [d1, d2, d3] }
  | _ => none }
def fnExactPlayReadersRow : OpenClaim := { program := "ytgiekkipkgdjaaa", sum := "2ad16bc425d957d726946d37676eec8b60e85c80e96d0c1fe0ed7c8d7dbb35c3", func := "loop.example/g00361/laws.FnExactPlayReaders", spec := "fnExactPlayReaders", unfollowed := true, recurses := true, apart := false }
def FnExactPlayReadersSaid : Prop := fnExactPlayReadersRow.holds Try.pinned (OpenSpec.ofChange fnExactPlayReadersSpec)

/-- ITS FALSE NEIGHBOUR: 'it returns false'. Refute it at one input. -/
def fnExactPlayReadersWrong : ChangeSpec := { name := "fnExactPlayReaders", fn := fun _ => fun
  | [d1, d2, d3] => { results := [.lit (.bool false)], args := [d1, d2, d3] }
  | _ => none }
def FnExactPlayReadersWrongFalsely : Prop := fnExactPlayReadersRow.holds Try.pinned (OpenSpec.ofChange fnExactPlayReadersWrong)

/-- 'laws.FnExactShareOf': WHATEVER THE INPUT: true; the input reads as it did. -/
def fnExactShareOfSpec : ChangeSpec := { name := "fnExactShareOf", fn := fun _ => fun
  | [d1, d2] => { results := [.lit (.bool true)], args := [d1, d2] }
  | _ => none }
def fnExactShareOfRow : OpenClaim := { program := "ytgiekkipkgdjaaa", sum := "2ad16bc425d957d726946d37676eec8b60e85c80e96d0c1fe0ed7c8d7dbb35c3", func := "loop.example/g00361/laws.FnExactShareOf", spec := "fnExactShareOf", unfollowed := true, recurses := true, apart := false }
def FnExactShareOfSaid : Prop := fnExactShareOfRow.holds Try.pinned (OpenSpec.ofChange fnExactShareOfSpec)

/-- ITS FALSE NEIGHBOUR: 'it returns false'. Refute it at one input. -/
def fnExactShareOfWrong : ChangeSpec := { name := "fnExactShareOf", fn := fun _ => fun
  | [d1, d2] => { results := [.lit (.bool false)], args := [d1, d2] }
  | _ => none }
def FnExactShareOfWrongFalsely : Prop := fnExactShareOfRow.holds Try.pinned (OpenSpec.ofChange fnExactShareOfWrong)

/-- 'laws.FnExactOwnerOf': WHATEVER THE INPUT: true; the input reads as it did. -/
def fnExactOwnerOfSpec : ChangeSpec := { name := "fnExactOwnerOf", fn := fun _ => fun
  | [d1, d2] => { results := [.lit (.bool true)], args := [d1, d2] }
  | _ => none }
def fnExactOwnerOfRow : OpenClaim := { program := "ytgiekkipkgdjaaa", sum := "2ad16bc425d957d726946d37676eec8b60e85c80e96d0c1fe0ed7c8d7dbb35c3", func := "loop.example/g00361/laws.FnExactOwnerOf", spec := "fnExactOwnerOf", unfollowed := true, recurses := true, apart := false }
def FnExactOwnerOfSaid : Prop := fnExactOwnerOfRow.holds Try.pinned (OpenSpec.ofChange fnExactOwnerOfSpec)

/-- ITS FALSE NEIGHBOUR: 'it returns false'. Refute it at one input. -/
def fnExactOwnerOfWrong : ChangeSpec := { name := "fnExactOwnerOf", fn := fun _ => fun
  | [d1, d2] => { results := [.lit (.bool false)], args := [d1, d2] }
  | _ => none }
def FnExactOwnerOfWrongFalsely : Prop := fnExactOwnerOfRow.holds Try.pinned (OpenSpec.ofChange fnExactOwnerOfWrong)

/-- 'laws.FnExactLeftToRead': WHATEVER THE INPUT: true; the input reads as it did. -/
def fnExactLeftToReadSpec : ChangeSpec := { name := "fnExactLeftToRead", fn := fun _ => fun
  | [d] => { results := [.lit (.bool true)], args := [d] }
  | _ => none }
def fnExactLeftToReadRow : OpenClaim := { program := "ytgiekkipkgdjaaa", sum := "2ad16bc425d957d726946d37676eec8b60e85c80e96d0c1fe0ed7c8d7dbb35c3", func := "loop.example/g00361/laws.FnExactLeftToRead", spec := "fnExactLeftToRead", unfollowed := true, recurses := true, apart := false }
def FnExactLeftToReadSaid : Prop := fnExactLeftToReadRow.holds Try.pinned (OpenSpec.ofChange fnExactLeftToReadSpec)

/-- ITS FALSE NEIGHBOUR: 'it returns false'. Refute it at one input. -/
def fnExactLeftToReadWrong : ChangeSpec := { name := "fnExactLeftToRead", fn := fun _ => fun
  | [d] => { results := [.lit (.bool false)], args := [d] }
  | _ => none }
def FnExactLeftToReadWrongFalsely : Prop := fnExactLeftToReadRow.holds Try.pinned (OpenSpec.ofChange fnExactLeftToReadWrong)

/- THE SECOND FORM. 'bulk': how many values and letters a reading holds, each counted each time it is reached (what is shared counts as often as it is met; a slice's spare places count too). A statement '..UptoSaid' is the law's where the arguments, and the package variables that the reading takes, are together of bulk at most 1048576: NARROWER than '..Said'. Prove '..Said' where nothing that the law and all that it calls make is longer than what came in: it says more and counts as full. Else prove '..UptoSaid'. A law counts once. -/
mutual
def uptoBulk {H : Type} : DataW H → Nat
  | .lit (.string bytes) => bytes.length + 1
  | .lit _ => 1
  | .nil => 1
  | .ptr d => uptoBulk d + 1
  | .slice elems spare => uptoBulkAll elems + uptoBulkAll spare + 1
  | .agg parts => uptoBulkAll parts + 1
  | .iface _ d => uptoBulk d + 1
  | .map entries => uptoBulkEntries entries + 1
  | .held _ => 1
def uptoBulkAll {H : Type} : List (DataW H) → Nat
  | [] => 0
  | d :: r => uptoBulk d + uptoBulkAll r
def uptoBulkEntries {H : Type} : List (Lit × DataW H) → Nat
  | [] => 0
  | x :: r => uptoBulkEntry x + uptoBulkEntries r
def uptoBulkEntry {H : Type} : Lit × DataW H → Nat
  | (.string bytes, d) => bytes.length + uptoBulk d + 1
  | (_, d) => uptoBulk d + 1
 end
def uptoSmall : (H : Type) → List (DataW H) → Bool := fun _ ds => decide (uptoBulkAll ds ≤ 1048576)
def OpenSpec.upto (s : _root_.Go.ChangeSpec) : _root_.Go.OpenSpec := { _root_.Go.OpenSpec.ofChange s with cond := some uptoSmall }

/-- 'laws.FnExactNewReaders', WHERE WHAT IT READS IS OF BULK AT MOST 1048576: true; the input reads as it did. -/
def fnExactNewReadersUptoRow : OpenClaim := { program := "ytgiekkipkgdjaaa", sum := "2ad16bc425d957d726946d37676eec8b60e85c80e96d0c1fe0ed7c8d7dbb35c3", func := "loop.example/g00361/laws.FnExactNewReaders", spec := "fnExactNewReaders", apart := false, narrowed := true }
def FnExactNewReadersUptoSaid : Prop := fnExactNewReadersUptoRow.holds Try.pinned (OpenSpec.upto fnExactNewReadersSpec)

/-- 'laws.FnExactGoodReaders', WHERE WHAT IT READS IS OF BULK AT MOST 1048576: true; the input reads as it did. -/
def fnExactGoodReadersUptoRow : OpenClaim := { program := "ytgiekkipkgdjaaa", sum := "2ad16bc425d957d726946d37676eec8b60e85c80e96d0c1fe0ed7c8d7dbb35c3", func := "loop.example/g00361/laws.FnExactGoodReaders", spec := "fnExactGoodReaders", unfollowed := true, recurses := true, apart := false, narrowed := true }
def FnExactGoodReadersUptoSaid : Prop := fnExactGoodReadersUptoRow.holds Try.pinned (OpenSpec.upto fnExactGoodReadersSpec)

/-- 'laws.FnExactStepReaders', WHERE WHAT IT READS IS OF BULK AT MOST 1048576: true; the input reads as it did. -/
def fnExactStepReadersUptoRow : OpenClaim := { program := "ytgiekkipkgdjaaa", sum := "2ad16bc425d957d726946d37676eec8b60e85c80e96d0c1fe0ed7c8d7dbb35c3", func := "loop.example/g00361/laws.FnExactStepReaders", spec := "fnExactStepReaders", unfollowed := true, recurses := true, apart := false, narrowed := true }
def FnExactStepReadersUptoSaid : Prop := fnExactStepReadersUptoRow.holds Try.pinned (OpenSpec.upto fnExactStepReadersSpec)

/-- 'laws.FnExactPlayReaders', WHERE WHAT IT READS IS OF BULK AT MOST 1048576: true; the input reads as it did. -/
def fnExactPlayReadersUptoRow : OpenClaim := { program := "ytgiekkipkgdjaaa", sum := "2ad16bc425d957d726946d37676eec8b60e85c80e96d0c1fe0ed7c8d7dbb35c3", func := "loop.example/g00361/laws.FnExactPlayReaders", spec := "fnExactPlayReaders", unfollowed := true, recurses := true, apart := false, narrowed := true }
def FnExactPlayReadersUptoSaid : Prop := fnExactPlayReadersUptoRow.holds Try.pinned (OpenSpec.upto fnExactPlayReadersSpec)

/-- 'laws.FnExactShareOf', WHERE WHAT IT READS IS OF BULK AT MOST 1048576: true; the input reads as it did. -/
def fnExactShareOfUptoRow : OpenClaim := { program := "ytgiekkipkgdjaaa", sum := "2ad16bc425d957d726946d37676eec8b60e85c80e96d0c1fe0ed7c8d7dbb35c3", func := "loop.example/g00361/laws.FnExactShareOf", spec := "fnExactShareOf", unfollowed := true, recurses := true, apart := false, narrowed := true }
def FnExactShareOfUptoSaid : Prop := fnExactShareOfUptoRow.holds Try.pinned (OpenSpec.upto fnExactShareOfSpec)

/-- 'laws.FnExactOwnerOf', WHERE WHAT IT READS IS OF BULK AT MOST 1048576: true; the input reads as it did. -/
def fnExactOwnerOfUptoRow : OpenClaim := { program := "ytgiekkipkgdjaaa", sum := "2ad16bc425d957d726946d37676eec8b60e85c80e96d0c1fe0ed7c8d7dbb35c3", func := "loop.example/g00361/laws.FnExactOwnerOf", spec := "fnExactOwnerOf", unfollowed := true, recurses := true, apart := false, narrowed := true }
def FnExactOwnerOfUptoSaid : Prop := fnExactOwnerOfUptoRow.holds Try.pinned (OpenSpec.upto fnExactOwnerOfSpec)

/-- 'laws.FnExactLeftToRead', WHERE WHAT IT READS IS OF BULK AT MOST 1048576: true; the input reads as it did. -/
def fnExactLeftToReadUptoRow : OpenClaim := { program := "ytgiekkipkgdjaaa", sum := "2ad16bc425d957d726946d37676eec8b60e85c80e96d0c1fe0ed7c8d7dbb35c3", func := "loop.example/g00361/laws.FnExactLeftToRead", spec := "fnExactLeftToRead", unfollowed := true, recurses := true, apart := false, narrowed := true }
def FnExactLeftToReadUptoSaid : Prop := fnExactLeftToReadUptoRow.holds Try.pinned (OpenSpec.upto fnExactLeftToReadSpec)

end Rows
end Go.Proofs.Ytgiekkipkgdjaaa
