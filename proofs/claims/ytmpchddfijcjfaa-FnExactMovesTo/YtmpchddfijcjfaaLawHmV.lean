/-
  The walk of the law FnExactMovesTo: at all that can be read it answers true and leaves what was there as it was. Made by mkhmlaw.py.
-/
import Derived.Test.YtmpchddfijcjfaaLawHHmV
import Derived.Test.YtmpchddfijcjfaaHmS2
import Derived.Test.YtmpchddfijcjfaaHmI
namespace Go.Proofs.Ytmpchddfijcjfaa
open Go.RowKit

theorem lawMoves_any (zs0 zs1 : List Int) (a0 : Option Addr) (c0 : Nat) (a1 : Option Addr) (c1 : Nat) (w : World) (hs0 : Ints w a0 zs0) (hm0 : zs0.length ≤ maxLen) (hs1 : Ints w a1 zs1) (hm1 : zs1.length ≤ maxLen) :
    Calls Try.prog 7 #[.slice a0 zs0.length c0, .slice a1 zs1.length c1] w fun r w' => r = .returned (.bool true) ∧ Below w.heap.size w w' :=
  lawMovesH zs0 zs1 (mvN zs0 zs1) (mvB zs0 zs1) a0 c0 a1 c1 w hs0 hm0 hs1 hm1 (fun u x y h0 h1 => specMovesTo_any x y _ _ zs0 zs1 u h0 h1 hm0 hm1) (fun u x y h0 h1 => implMovesTo_any x y _ _ zs0 zs1 u h0 h1 hm0 hm1)

end Go.Proofs.Ytmpchddfijcjfaa
