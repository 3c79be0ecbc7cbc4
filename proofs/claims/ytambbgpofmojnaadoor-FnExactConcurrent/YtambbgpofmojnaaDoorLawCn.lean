/-
  The walk of the law FnExactConcurrent: at every number and every list of events that can be read, the table of math/bits being as it is laid, it answers true and leaves what was there as it was.
-/
import Derived.Test.YtambbgpofmojnaaDoorLawHCn
import Derived.Test.YtambbgpofmojnaaDoorCnf
namespace Go.Proofs.YtambbgpofmojnaaDoor
open Go.RowKit

theorem lawConcurrent_any (z0 : Int) (zs1 : List Ev) (a1 : Option Addr) (c1 : Nat) (w : World) (hs : Evs w a1 zs1) (hm : zs1.length ≤ maxLen) (hT : TabQ w) :
    Calls Tryd.prog 4 #[.int .i64 z0, .slice a1 zs1.length c1] w fun r w' => r = .returned (.bool true) ∧ Below w.heap.size w w' :=
  lawConcH z0 zs1 (cnV z0 zs1) (goodEv z0 zs1) a1 c1 w hs hm hT (fun u x h _ => specCn_any z0 x zs1 u h hm) (fun u x h t => implCn_any z0 x zs1 u h hm t)

end Go.Proofs.YtambbgpofmojnaaDoor
