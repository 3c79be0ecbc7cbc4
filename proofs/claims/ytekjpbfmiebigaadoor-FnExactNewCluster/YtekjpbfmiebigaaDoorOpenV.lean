/-
  How votes that came in read.
-/
import Derived.Test.YtekjpbfmiebigaaDoorOpenEp
import Derived.Test.YtekjpbfmiebigaaDoorVot
namespace Go.Proofs.YtekjpbfmiebigaaDoor
open Go.ChangeShapes Go.WideShapes Go.ChangeAt Go.RowKit

theorem Tryd.cellsInts : Tryd.prog.cellsOf 22 = 1 := by kernel_rfl

section
variable {H : Type} {enc : TypeId × Value → H} {w : World} {base : Nat} {spare : Nat → Bool} {held : Bool}

end
end Go.Proofs.YtekjpbfmiebigaaDoor
