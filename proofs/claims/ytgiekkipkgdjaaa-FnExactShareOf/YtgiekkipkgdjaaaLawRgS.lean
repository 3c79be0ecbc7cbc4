/-
  The walk of the law FnExactShareOf: at all that can be read it answers true and leaves what was there as it was. Made by mkwlaw.py.
-/
import Derived.Test.YtgiekkipkgdjaaaLawHRgS
import Derived.Test.YtgiekkipkgdjaaaRgS3
import Derived.Test.YtgiekkipkgdjaaaRgI
namespace Go.Proofs.Ytgiekkipkgdjaaa
open Go.RowKit

theorem lawRgS_any (s : Rg) (y1 : Int) (a0 a1 a2 : Option Addr) (c0 c1 c2 : Nat) (w : World) (hs : RgR w s a0 a1 a2) (hL : RgL s) :
    Calls Try.prog 7 #[rgV s a0 c0 a1 c1 a2 c2, .int .i64 y1] w fun r w' => r = .returned (.bool true) ∧ Below w.heap.size w w' :=
  lawRgSH s y1 (shoL s y1) (shoB s y1) a0 a1 a2 c0 c1 c2 w hs hL (shoL_len s y1) (fun hb u b0 b1 b2 d0 d1 d2 h => specShareOf_any s y1 b0 b1 b2 d0 d1 d2 u h hb.len) (fun hb u b0 b1 b2 d0 d1 d2 h => implShareOf_any s y1 b0 b1 b2 d0 d1 d2 u h hb)

end Go.Proofs.Ytgiekkipkgdjaaa
