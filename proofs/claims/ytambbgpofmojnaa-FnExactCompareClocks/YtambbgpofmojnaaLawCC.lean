/-
  The walk of the law FnExactCompareClocks: at every two lists of numbers that can be read it answers true and leaves what was there as it was.
-/
import Derived.Test.YtambbgpofmojnaaLawHCC
import Derived.Test.YtambbgpofmojnaaCmpC
namespace Go.Proofs.Ytambbgpofmojnaa
open Go.RowKit

theorem lawCompare_any (zs0 zs1 : List Int) (a0 : Option Addr) (c0 : Nat) (a1 : Option Addr) (c1 : Nat) (w : World) (hs0 : Ints w a0 zs0) (hm0 : zs0.length ≤ maxLen) (hs1 : Ints w a1 zs1) (hm1 : zs1.length ≤ maxLen) :
    Calls Try.prog 7 #[.slice a0 zs0.length c0, .slice a1 zs1.length c1] w fun r w' => r = .returned (.bool true) ∧ Below w.heap.size w w' :=
  lawCompareH zs0 zs1 (ccV zs0 zs1) (goodCC zs0 zs1) a0 c0 a1 c1 w hs0 hm0 hs1 hm1 (fun u x y h0 h1 => specCC_any x y zs0 zs1 u h0 h1 hm0 hm1) (fun u x y h0 h1 => implCC_any x y zs0 zs1 u h0 h1 hm0 hm1)

end Go.Proofs.Ytambbgpofmojnaa
