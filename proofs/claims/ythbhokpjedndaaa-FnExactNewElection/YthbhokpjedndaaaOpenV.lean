/-
  How votes that came in read.
-/
import Derived.Test.YthbhokpjedndaaaOpenEp
import Derived.Test.YthbhokpjedndaaaVot
namespace Go.Proofs.Ythbhokpjedndaaa
open Go.ChangeShapes Go.WideShapes Go.ChangeAt Go.RowKit

theorem Try.cellsInts : Try.prog.cellsOf 55 = 1 := by kernel_rfl

section
variable {H : Type} {enc : TypeId × Value → H} {w : World} {base : Nat} {spare : Nat → Bool} {held : Bool}

end
end Go.Proofs.Ythbhokpjedndaaa
