/-
  How lists of lists of numbers that came in read.
-/
import Derived.Test.YtekjpbfmiebigaaDoorOpenV
import Derived.Test.YtekjpbfmiebigaaDoorIss
namespace Go.Proofs.YtekjpbfmiebigaaDoor
open Go.ChangeShapes Go.WideShapes Go.ChangeAt Go.RowKit

section
variable {H : Type} {enc : TypeId × Value → H} {w : World} {base : Nat} {spare : Nat → Bool} {held : Bool}

end
end Go.Proofs.YtekjpbfmiebigaaDoor
