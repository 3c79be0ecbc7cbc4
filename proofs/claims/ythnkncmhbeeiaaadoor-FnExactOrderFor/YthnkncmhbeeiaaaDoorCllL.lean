/-
  Lists of calls as arguments of a law: how many there are.
-/
import Derived.Test.YthnkncmhbeeiaaaDoorCll
namespace Go.Proofs.YthnkncmhbeeiaaaDoor
open Go.RowKit

def szC (n : Nat) : Int := szN n 1048576
theorem szC_neg {n : Nat} (h : (1048576 : Int) < n) : szC n = -1 := by unfold szC szN; rw [if_pos (by omega)]
theorem szC_pos {n : Nat} (h : n ≤ 1048576) : szC n = 1048576 - n := by unfold szC szN; rw [if_neg (by omega)]

theorem szCallS_l (a : Option Addr) (c n : Nat) (w : World) (hl : n ≤ maxLen) :
    Calls Tryd.prog 6 #[.slice a n c, .int .i64 1048576] w fun e w' => e = .returned (.int .i64 (szC n)) ∧ w' = w := szCallS_any a c n 1048576 w hl (by omega) (by omega)

end Go.Proofs.YthnkncmhbeeiaaaDoor
