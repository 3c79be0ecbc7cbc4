/-
  The walk of the law FnExactRacksOf: at all that can be read it answers true and leaves what was there as it was. Made by mklawrk.py.
-/
import Derived.Test.YtmpchddfijcjfaaDoorLawHRk
import Derived.Test.YtmpchddfijcjfaaDoorRkS
import Derived.Test.YtmpchddfijcjfaaDoorHmRJ
namespace Go.Proofs.YtmpchddfijcjfaaDoor
open Go.RowKit

theorem lawRacksOf_any (zs0 : List Int) (a0 : Option Addr) (c0 : Nat) (z1 : Int) (w : World) (hs0 : Ints w a0 zs0) (hm0 : zs0.length ≤ maxLen) (hT : TabQ w) :
    Calls Tryd.prog 3 #[.slice a0 zs0.length c0, .int .i64 z1] w fun r w' => r = .returned (.bool true) ∧ Below w.heap.size w w' :=
  lawRkH zs0 z1 (racL zs0 z1) (racOk zs0 z1) a0 c0 w hs0 hm0 (racL_small zs0 z1).1 (racL_small zs0 z1).2 (fun u x h => specRacksOf_any x _ zs0 z1 u h hm0) (fun u x h hb => implRacksOf_any x _ zs0 z1 u h hm0 (hT.belowRk hb))

end Go.Proofs.YtmpchddfijcjfaaDoor
