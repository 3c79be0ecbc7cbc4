/-
  The walk of the law FnExactScalarClocks: at every number and every list of events that can be read it answers true and leaves what was there as it was.
-/
import Derived.Test.YtambbgpofmojnaaLawHSC
import Derived.Test.YtambbgpofmojnaaScl
namespace Go.Proofs.Ytambbgpofmojnaa
open Go.RowKit

theorem lawScalar_any (z0 : Int) (zs1 : List Ev) (a1 : Option Addr) (c1 : Nat) (w : World) (hs : Evs w a1 zs1) (hm : zs1.length ≤ maxLen) :
    Calls Try.prog 4 #[.int .i64 z0, .slice a1 zs1.length c1] w fun r w' => r = .returned (.bool true) ∧ Below w.heap.size w w' :=
  lawScalarH z0 zs1 (scl z0 zs1) (goodEv z0 zs1) a1 c1 w hs hm (scl_len z0 zs1) (fun u x h => specScl_any z0 x zs1 u h hm) (fun u x h => implScl_any z0 x zs1 u h hm)

end Go.Proofs.Ytambbgpofmojnaa
