/-
  Places, the specification's side: GoodPlaces, l13Loads, LoadsOf, IsEven, MovesTo.
-/
import Derived.Test.YthnkncmhbeeiaaaDoorHmM
import Derived.Test.YthnkncmhbeeiaaaDoorQSpec
import Derived.Test.YthnkncmhbeeiaaaDoorZCell
import Derived.Test.YthnkncmhbeeiaaaDoorBagAid
import Derived.BigQuiet
namespace Go.Proofs.YthnkncmhbeeiaaaDoor
open Go.RowKit

theorem l1In_m (n lo hi : Int) (b : Bool) (w : World) (h : inB n lo hi = b) : Calls Tryd.prog 39 #[.int .i64 n, .int .i64 lo, .int .i64 hi] w fun e w' => e = .returned (.bool b) ∧ w' = w := by
  rw [← h]; exact l1In_any n lo hi w
theorem l1Has_m (a : Option Addr) (c : Nat) (zs : List Int) (n : Int) (b : Bool) (w : World) (hs : Ints w a zs) (hl : zs.length ≤ maxLen) (h : zs.contains n = b) :
    Calls Tryd.prog 29 #[.slice a zs.length c, .int .i64 n] w fun e w' => e = .returned (.bool b) ∧ w' = w := by
  rw [← h]; exact l1Has_any a c zs n w hs hl

/-- The row of loads over the first k. -/
def loadF (l : List Int) (k : Nat) (j : Nat) : Value := .int .i64 ((cntTo l (j : Int) k : Nat) : Int)

end Go.Proofs.YthnkncmhbeeiaaaDoor
