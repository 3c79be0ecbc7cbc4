/-
  The walk of the law FnExactDropHome: at all that can be read it answers true and leaves what was there as it was. Made by mkhmlaw.py.
-/
import Derived.Test.YtmpchddfijcjfaaLawHHmD
import Derived.Test.YtmpchddfijcjfaaHmQ3
import Derived.Test.YtmpchddfijcjfaaHmJ
namespace Go.Proofs.Ytmpchddfijcjfaa
open Go.RowKit

theorem lawDropH_any (z0 : Int) (zs1 : List Int) (z2 : Int) (a1 : Option Addr) (c1 : Nat) (w : World) (hs1 : Ints w a1 zs1) (hm1 : zs1.length ≤ maxLen) :
    Calls Try.prog 9 #[.int .i64 z0, .slice a1 zs1.length c1, .int .i64 z2] w fun r w' => r = .returned (.bool true) ∧ Below w.heap.size w w' :=
  lawDropHH z0 zs1 z2 (drpL z0 zs1 z2) (drpB z0 zs1 z2) a1 c1 w hs1 hm1 (drpL_len z0 zs1 z2) (fun u x h => specDropHome_any z0 z2 x _ zs1 u h hm1) (fun u x h => implDropHome_any z0 z2 x _ zs1 u h hm1)

end Go.Proofs.Ytmpchddfijcjfaa
