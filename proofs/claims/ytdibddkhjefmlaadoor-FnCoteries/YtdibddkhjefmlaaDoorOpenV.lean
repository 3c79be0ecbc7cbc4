/-
  How votes that came in read.
-/
import Derived.Test.YtdibddkhjefmlaaDoorOpenEp
import Derived.Test.YtdibddkhjefmlaaDoorVot
namespace Go.Proofs.YtdibddkhjefmlaaDoor
open Go.ChangeShapes Go.WideShapes Go.ChangeAt Go.RowKit

theorem Tryd.cellsInts : Tryd.prog.cellsOf 31 = 1 := by kernel_rfl

section
variable {H : Type} {enc : TypeId × Value → H} {w : World} {base : Nat} {spare : Nat → Bool} {held : Bool}

end
end Go.Proofs.YtdibddkhjefmlaaDoor
