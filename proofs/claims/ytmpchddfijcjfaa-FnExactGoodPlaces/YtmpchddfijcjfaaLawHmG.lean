/-
  The walk of the law FnExactGoodPlaces: at all that can be read it answers true and leaves what was there as it was. Made by mkhmlaw.py.
-/
import Derived.Test.YtmpchddfijcjfaaLawHHmG
import Derived.Test.YtmpchddfijcjfaaHmS
import Derived.Test.YtmpchddfijcjfaaHmI
namespace Go.Proofs.Ytmpchddfijcjfaa
open Go.RowKit

theorem lawGoodPl_any (z0 : Int) (zs1 : List Int) (a1 : Option Addr) (c1 : Nat) (w : World) (hs1 : Ints w a1 zs1) (hm1 : zs1.length ≤ maxLen) :
    Calls Try.prog 3 #[.int .i64 z0, .slice a1 zs1.length c1] w fun r w' => r = .returned (.bool true) ∧ Below w.heap.size w w' :=
  lawGoodPlH z0 zs1 (plB z0 zs1) a1 c1 w hs1 hm1 (fun u x h => (specGoodPl_any z0 x _ zs1 u h hm1).mono fun _ _ ⟨e, he⟩ => ⟨e, by rw [he]; exact Below.refl _ _⟩) (fun u x h => implGoodPl_any z0 x _ zs1 u h hm1)

end Go.Proofs.Ytmpchddfijcjfaa
