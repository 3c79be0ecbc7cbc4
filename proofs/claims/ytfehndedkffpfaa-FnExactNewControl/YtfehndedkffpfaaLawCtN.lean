/-
  The walk of the law FnExactNewControl: at all numbers it answers true and leaves what was there as it was. Made by mkwlaw.py.
-/
import Derived.Test.YtfehndedkffpfaaLawHCtN
import Derived.Test.YtfehndedkffpfaaCtNS
import Derived.Test.YtfehndedkffpfaaCtI5
namespace Go.Proofs.Ytfehndedkffpfaa
open Go.RowKit

theorem lawCtN_any (z0 : Int) (w : World) : Calls Try.prog 3 #[.int .i64 z0] w fun r w' => r = .returned (.bool true) ∧ Below w.heap.size w w' :=
  lawCtNH z0 (newCt z0) (inB z0 1 6) w (newCt_small z0).1 (newCt_small z0).2 (fun u => specNewCt_any z0 u) (fun u => implNewCt_any z0 u)

end Go.Proofs.Ytfehndedkffpfaa
