/-
  The walk of the law FnExactCausalPast: at every two numbers and every list of events that can be read, the table of math/bits being as it is laid, it answers true and leaves what was there as it was.
-/
import Derived.Test.YtambbgpofmojnaaDoorLawHCP
import Derived.Test.YtambbgpofmojnaaDoorCPf
namespace Go.Proofs.YtambbgpofmojnaaDoor
open Go.RowKit

theorem lawCausalPast_any (z0 : Int) (zs1 : List Ev) (a1 : Option Addr) (c1 : Nat) (z2 : Int) (w : World) (hs : Evs w a1 zs1) (hm : zs1.length ≤ maxLen) (hT : TabQ w) :
    Calls Tryd.prog 3 #[.int .i64 z0, .slice a1 zs1.length c1, .int .i64 z2] w fun r w' => r = .returned (.bool true) ∧ Below w.heap.size w w' :=
  lawPastH z0 zs1 z2 (cpL z0 zs1 z2) (thereB z0 zs1 z2) a1 c1 w hs hm (cpL_len z0 zs1 z2) hT (fun u x h _ => specCP_any z0 z2 x zs1 u h hm) (fun u x h t => implCP_any z0 z2 x zs1 u h hm t)

end Go.Proofs.YtambbgpofmojnaaDoor
