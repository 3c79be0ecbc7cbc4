/-
  The walk of the law FnExactLoadsOf: at all that can be read it answers true and leaves what was there as it was. Made by mkhmlaw.py.
-/
import Derived.Test.YtmpchddfijcjfaaLawHHmL
import Derived.Test.YtmpchddfijcjfaaHmS
import Derived.Test.YtmpchddfijcjfaaHmI4
namespace Go.Proofs.Ytmpchddfijcjfaa
open Go.RowKit

theorem lawLoads_any (z0 : Int) (zs1 : List Int) (a1 : Option Addr) (c1 : Nat) (w : World) (hs1 : Ints w a1 zs1) (hm1 : zs1.length ≤ maxLen) :
    Calls Try.prog 4 #[.int .i64 z0, .slice a1 zs1.length c1] w fun r w' => r = .returned (.bool true) ∧ Below w.heap.size w w' :=
  lawLoadsH z0 zs1 (lofL z0 zs1) (plB z0 zs1) a1 c1 w hs1 hm1 (lofL_len z0 zs1) (fun u x h => specLoadsOf_any z0 x _ zs1 u h hm1) (fun u x h => implLoadsOf_any z0 x _ zs1 u h hm1)

end Go.Proofs.Ytmpchddfijcjfaa
