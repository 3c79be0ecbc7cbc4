/-
  The walk of the law FnExactLogsMatch: at every two logs that can be read it answers true and leaves what was there as it was.
-/
import Derived.Test.YtglncbhbeikclaaLawHLM
import Derived.Test.YtglncbhbeikclaaRaLM
import Derived.Test.YtglncbhbeikclaaRaI6
namespace Go.Proofs.Ytglncbhbeikclaa
open Go.RowKit

theorem lawLogsMatch_any (zs0 zs1 : List En) (a0 : Option Addr) (c0 : Nat) (a1 : Option Addr) (c1 : Nat) (w : World) (hs0 : Ens w a0 zs0) (hm0 : zs0.length ≤ maxLen) (hs1 : Ens w a1 zs1) (hm1 : zs1.length ≤ maxLen) :
    Calls Try.prog 6 #[.slice a0 zs0.length c0, .slice a1 zs1.length c1] w fun r w' => r = .returned (.bool true) ∧ Below w.heap.size w w' :=
  lawLogsMatchH zs0 zs1 (lmA zs0 zs1) (lmB zs0 zs1) a0 c0 a1 c1 w hs0 hm0 hs1 hm1 (fun u x y h0 h1 => (specLogsMatch_any x y _ _ zs0 zs1 u h0 h1 hm0 hm1)) (fun u x y h0 h1 => implLogsMatch_any x y _ _ zs0 zs1 u h0 h1 hm0 hm1 (Nat.le_refl _) (Nat.le_refl _))

end Go.Proofs.Ytglncbhbeikclaa
