/-
  The walk of the law FnExactNewRaft: at all numbers it answers true and leaves what was there as it was. Made by mkwlaw.py.
-/
import Derived.Test.YtglncbhbeikclaaLawHRaN
import Derived.Test.YtglncbhbeikclaaRaNS
import Derived.Test.YtglncbhbeikclaaRaI7
namespace Go.Proofs.Ytglncbhbeikclaa
open Go.RowKit

theorem lawRaN_any (z0 : Int) (w : World) : Calls Try.prog 3 #[.int .i64 z0] w fun r w' => r = .returned (.bool true) ∧ Below w.heap.size w w' :=
  lawRaNH z0 (newRa z0) (inB z0 1 5) w (newRa_small z0).1 (newRa_small z0).2 (fun u => specNewRa_any z0 u) (fun u => implNewRa_any z0 u)

end Go.Proofs.Ytglncbhbeikclaa
