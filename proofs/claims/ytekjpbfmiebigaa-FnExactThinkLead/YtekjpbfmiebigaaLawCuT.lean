/-
  The walk of the law FnExactThinkLead: at all that can be read it answers true and leaves what was there as it was. Made by mkwlaw.py.
-/
import Derived.Test.YtekjpbfmiebigaaLawHCuT
import Derived.Test.YtekjpbfmiebigaaCuS4
import Derived.Test.YtekjpbfmiebigaaCuI4
namespace Go.Proofs.Ytekjpbfmiebigaa
open Go.RowKit

theorem lawCuT_any (s : Cu) (a0 a1 a2 : Option Addr) (c0 c1 c2 : Nat) (w : World) (hs : CuR w s a0 a1 a2) (hL : CuL s) (hr : CuN s) :
    Calls Try.prog 4 #[cuV s a0 c0 a1 c1 a2 c2] w fun r w' => r = .returned (.bool true) ∧ Below w.heap.size w w' :=
  lawCuTH s  (thkL s) (goodCu s) a0 a1 a2 c0 c1 c2 w hs hL (thkL_len s) (fun hb u b0 b1 b2 d0 d1 d2 h => specThinkLead_any s  b0 b1 b2 d0 d1 d2 u h hb.len) (fun hb u b0 b1 b2 d0 d1 d2 h => implThinkLead_any s hr  b0 b1 b2 d0 d1 d2 u h hb)

end Go.Proofs.Ytekjpbfmiebigaa
