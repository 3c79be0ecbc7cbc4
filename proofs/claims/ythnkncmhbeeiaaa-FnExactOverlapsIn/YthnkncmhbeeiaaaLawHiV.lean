/-
  The walk of the law FnExactOverlapsIn: at all that can be read it answers true and leaves what was there as it was. Made by mkhilaw.py.
-/
import Derived.Test.YthnkncmhbeeiaaaLawHHiV
import Derived.Test.YthnkncmhbeeiaaaHiS3
import Derived.Test.YthnkncmhbeeiaaaHiI5
namespace Go.Proofs.Ythnkncmhbeeiaaa
open Go.RowKit

theorem lawOver_any (zs0 : List Cl) (a0 : Option Addr) (c0 : Nat) (w : World) (hs0 : Cls w a0 zs0) (hm0 : zs0.length ≤ maxLen) :
    Calls Try.prog 7 #[.slice a0 zs0.length c0] w fun r w' => r = .returned (.bool true) ∧ Below w.heap.size w w' :=
  lawOverH zs0 (ovA zs0) (goodCl zs0) a0 c0 w hs0 hm0 (fun u x h => specOverlapsIn_any x _ zs0 u h hm0 (Nat.le_refl _)) (fun u x h => implOverlapsIn_any x _ zs0 u h hm0 (Nat.le_refl _))

end Go.Proofs.Ythnkncmhbeeiaaa
