/-
  How votes that came in read.
-/
import Derived.Test.YtjicphdjipihfaaOpenEp
import Derived.Test.YtjicphdjipihfaaVot
namespace Go.Proofs.Ytjicphdjipihfaa
open Go.ChangeShapes Go.WideShapes Go.ChangeAt Go.RowKit

theorem Try.cellsInts : Try.prog.cellsOf 48 = 1 := by kernel_rfl

section
variable {H : Type} {enc : TypeId × Value → H} {w : World} {base : Nat} {spare : Nat → Bool} {held : Bool}

end
end Go.Proofs.Ytjicphdjipihfaa
