/-
  The walk of the law FnExactOnObject: at all that can be read it answers true and leaves what was there as it was. Made by mkhilaw.py.
-/
import Derived.Test.YthnkncmhbeeiaaaLawHHiO
import Derived.Test.YthnkncmhbeeiaaaHiS3
import Derived.Test.YthnkncmhbeeiaaaHiI5
namespace Go.Proofs.Ythnkncmhbeeiaaa
open Go.RowKit

theorem lawOnObj_any (zs0 : List Cl) (z1 : Int) (a0 : Option Addr) (c0 : Nat) (w : World) (hs0 : Cls w a0 zs0) (hm0 : zs0.length ≤ maxLen) :
    Calls Try.prog 6 #[.slice a0 zs0.length c0, .int .i64 z1] w fun r w' => r = .returned (.bool true) ∧ Below w.heap.size w w' :=
  lawOnObjH zs0 z1 (onL zs0 z1) (onB zs0 z1) a0 c0 w hs0 hm0 (onL_len zs0 z1) (fun u x h => specOnObject_any z1 x _ zs0 u h hm0 (Nat.le_refl _)) (fun u x h => implOnObject_any z1 x _ zs0 u h hm0 (Nat.le_refl _))

end Go.Proofs.Ythnkncmhbeeiaaa
