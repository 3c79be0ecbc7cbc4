/-
  How lists of lists of numbers that came in read.
-/
import Derived.Test.YthnkncmhbeeiaaaDoorOpenV
import Derived.Test.YthnkncmhbeeiaaaDoorIss
namespace Go.Proofs.YthnkncmhbeeiaaaDoor
open Go.ChangeShapes Go.WideShapes Go.ChangeAt Go.RowKit

section
variable {H : Type} {enc : TypeId × Value → H} {w : World} {base : Nat} {spare : Nat → Bool} {held : Bool}

end
end Go.Proofs.YthnkncmhbeeiaaaDoor
