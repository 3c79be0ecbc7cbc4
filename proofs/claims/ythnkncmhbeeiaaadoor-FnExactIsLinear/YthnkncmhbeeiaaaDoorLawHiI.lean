/-
  The walk of the law FnExactIsLinear, where the table of math/bits holds what its initialiser lays: at all that can be read it answers true and leaves what was there as it was. Made by mkhilawd.py.
-/
import Derived.Test.YthnkncmhbeeiaaaDoorLawHHiId
import Derived.Test.YthnkncmhbeeiaaaDoorHiF2
import Derived.Test.YthnkncmhbeeiaaaDoorHiI6
namespace Go.Proofs.YthnkncmhbeeiaaaDoor
open Go.RowKit

theorem lawIsLinear_any (zs0 : List Cl) (a0 : Option Addr) (c0 : Nat) (w : World) (hs0 : Cls w a0 zs0) (hm0 : zs0.length ≤ maxLen) (hT : TabQ w) :
    Calls Tryd.prog 3 #[.slice a0 zs0.length c0] w fun r w' => r = .returned (.bool true) ∧ Below w.heap.size w w' :=
  lawLinearH zs0 (linA zs0 false) (goodCl zs0) a0 c0 w hs0 hm0 (fun u x h => specIsLinear_any x _ zs0 u h hm0 (Nat.le_refl _)) (fun u x hb h => implIsLinear_any x _ zs0 u h hm0 (Nat.le_refl _) (hT.bel hb))

end Go.Proofs.YthnkncmhbeeiaaaDoor
