/-
  How lists of lists of numbers that came in read.
-/
import Derived.Test.YtkhbgdnhkaeamaaDoorOpenV
import Derived.Test.YtkhbgdnhkaeamaaDoorIss
namespace Go.Proofs.YtkhbgdnhkaeamaaDoor
open Go.ChangeShapes Go.WideShapes Go.ChangeAt Go.RowKit

section
variable {H : Type} {enc : TypeId × Value → H} {w : World} {base : Nat} {spare : Nat → Bool} {held : Bool}

end
end Go.Proofs.YtkhbgdnhkaeamaaDoor
