/-
  The walk of the law FnExactNewReaders: at all that can be read it answers true and leaves what was there as it was. Made by mkwlawi.py.
-/
import Derived.Test.YtgiekkipkgdjaaaLawHRgN
import Derived.Test.YtgiekkipkgdjaaaRgNS
import Derived.Test.YtgiekkipkgdjaaaRgNI
namespace Go.Proofs.Ytgiekkipkgdjaaa
open Go.RowKit

theorem lawRgN_any (z0 : Int) (zs1 : List Int) (a1 : Option Addr) (c1 : Nat) (w : World) (hs1 : Ints w a1 zs1) (hm1 : zs1.length ≤ maxLen) :
    Calls Try.prog 3 #[.int .i64 z0, .slice a1 zs1.length c1] w fun r w' => r = .returned (.bool true) ∧ Below w.heap.size w w' :=
  lawRgNH z0 zs1 (newRg z0 zs1) (nrOk z0 zs1) a1 c1 w hs1 hm1 (newRg_small z0 zs1).1 (newRg_small z0 zs1).2 (fun u b d h => specNewRg_any z0 b d zs1 u h hm1) (fun u b d h => implNewRg_any z0 b d zs1 u h hm1)

end Go.Proofs.Ytgiekkipkgdjaaa
