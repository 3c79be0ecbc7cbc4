/-
  How votes that came in read.
-/
import Derived.Test.YtkhlmcdfjabceaaOpenEp
import Derived.Test.YtkhlmcdfjabceaaVot
namespace Go.Proofs.Ytkhlmcdfjabceaa
open Go.ChangeShapes Go.WideShapes Go.ChangeAt Go.RowKit

theorem Try.cellsInts : Try.prog.cellsOf 37 = 1 := by kernel_rfl

section
variable {H : Type} {enc : TypeId × Value → H} {w : World} {base : Nat} {spare : Nat → Bool} {held : Bool}

end
end Go.Proofs.Ytkhlmcdfjabceaa
