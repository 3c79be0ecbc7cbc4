/-
  How lists of lists of numbers that came in read.
-/
import Derived.Test.YtfehndedkffpfaaDoorOpenV
import Derived.Test.YtfehndedkffpfaaDoorIss
namespace Go.Proofs.YtfehndedkffpfaaDoor
open Go.ChangeShapes Go.WideShapes Go.ChangeAt Go.RowKit

section
variable {H : Type} {enc : TypeId × Value → H} {w : World} {base : Nat} {spare : Nat → Bool} {held : Bool}

end
end Go.Proofs.YtfehndedkffpfaaDoor
