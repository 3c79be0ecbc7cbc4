/-
  The walk of the law FnExactRespectsTime: at all that can be read it answers true and leaves what was there as it was. Made by mkhilaw.py.
-/
import Derived.Test.YthnkncmhbeeiaaaLawHHiR
import Derived.Test.YthnkncmhbeeiaaaHiS2
import Derived.Test.YthnkncmhbeeiaaaHiI4
namespace Go.Proofs.Ythnkncmhbeeiaaa
open Go.RowKit

theorem lawResp_any (zs0 : List Cl) (zs1 : List Int) (a0 : Option Addr) (c0 : Nat) (a1 : Option Addr) (c1 : Nat) (w : World) (hs0 : Cls w a0 zs0) (hm0 : zs0.length ≤ maxLen) (hs1 : Ints w a1 zs1) (hm1 : zs1.length ≤ maxLen) :
    Calls Try.prog 5 #[.slice a0 zs0.length c0, .slice a1 zs1.length c1] w fun r w' => r = .returned (.bool true) ∧ Below w.heap.size w w' :=
  lawRespH zs0 zs1 (rspA zs0 zs1) (isB zs0 zs1) a0 c0 a1 c1 w hs0 hm0 hs1 hm1 (fun u x y h0 h1 => specRespectsTime_any x y _ _ zs0 zs1 u h0 h1 hm0 hm1 (Nat.le_refl _) (Nat.le_refl _)) (fun u x y h0 h1 => implRespectsTime_any x y _ _ zs0 zs1 u h0 h1 hm0 hm1 (Nat.le_refl _) (Nat.le_refl _))

end Go.Proofs.Ythnkncmhbeeiaaa
