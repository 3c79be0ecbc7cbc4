/-
  How votes that came in read.
-/
import Derived.Test.YtmbfdonefpegeaaDoorOpenEp
import Derived.Test.YtmbfdonefpegeaaDoorVot
namespace Go.Proofs.YtmbfdonefpegeaaDoor
open Go.ChangeShapes Go.WideShapes Go.ChangeAt Go.RowKit

theorem Tryd.cellsInts : Tryd.prog.cellsOf 24 = 1 := by kernel_rfl

section
variable {H : Type} {enc : TypeId × Value → H} {w : World} {base : Nat} {spare : Nat → Bool} {held : Bool}

end
end Go.Proofs.YtmbfdonefpegeaaDoor
