/-
  The walk of the law FnExactHappensBefore: at every three numbers and every list of events that can be read it answers true and leaves what was there as it was.
-/
import Derived.Test.YtambbgpofmojnaaLawHHB
import Derived.Test.YtambbgpofmojnaaHBf
namespace Go.Proofs.Ytambbgpofmojnaa
open Go.RowKit

theorem lawBefore_any (z0 : Int) (zs1 : List Ev) (z2 z3 : Int) (a1 : Option Addr) (c1 : Nat) (w : World) (hs : Evs w a1 zs1) (hm : zs1.length ≤ maxLen) :
    Calls Try.prog 6 #[.int .i64 z0, .slice a1 zs1.length c1, .int .i64 z2, .int .i64 z3] w fun r w' => r = .returned (.bool true) ∧ Below w.heap.size w w' :=
  lawBeforeH z0 zs1 z2 z3 (hbV z0 zs1 z2 z3) (hbB z0 zs1 z2 z3) a1 c1 w hs hm (fun u x h => specHB_any z0 z2 z3 x zs1 u h hm) (fun u x h => implHB_any z0 z2 z3 x zs1 u h hm)

end Go.Proofs.Ytambbgpofmojnaa
