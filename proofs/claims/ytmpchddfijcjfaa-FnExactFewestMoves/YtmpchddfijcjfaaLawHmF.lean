/-
  The walk of the law FnExactFewestMoves: at all that can be read it answers true and leaves what was there as it was. Made by mkhmlaw.py.
-/
import Derived.Test.YtmpchddfijcjfaaLawHHmF
import Derived.Test.YtmpchddfijcjfaaHmQ3
import Derived.Test.YtmpchddfijcjfaaHmJ
namespace Go.Proofs.Ytmpchddfijcjfaa
open Go.RowKit

theorem lawFewest_any (z0 : Int) (zs1 : List Int) (a1 : Option Addr) (c1 : Nat) (w : World) (hs1 : Ints w a1 zs1) (hm1 : zs1.length ≤ maxLen) :
    Calls Try.prog 8 #[.int .i64 z0, .slice a1 zs1.length c1] w fun r w' => r = .returned (.bool true) ∧ Below w.heap.size w w' :=
  lawFewestH z0 zs1 (fewN z0 zs1) (plB z0 zs1) a1 c1 w hs1 hm1 (fun u x h => specFewestMoves_any z0 x _ zs1 u h hm1) (fun u x h => implFewestMoves_any z0 x _ zs1 u h hm1)

end Go.Proofs.Ytmpchddfijcjfaa
