/-
  The walk of the law FnExactGoodReaders: at all that can be read it answers true and leaves what was there as it was. Made by mkwlaw.py.
-/
import Derived.Test.YtgiekkipkgdjaaaLawHRgG
import Derived.Test.YtgiekkipkgdjaaaRgS2
import Derived.Test.YtgiekkipkgdjaaaRgI
namespace Go.Proofs.Ytgiekkipkgdjaaa
open Go.RowKit

theorem lawRgG_any (s : Rg) (a0 a1 a2 : Option Addr) (c0 c1 c2 : Nat) (w : World) (hs : RgR w s a0 a1 a2) (hL : RgL s) :
    Calls Try.prog 4 #[rgV s a0 c0 a1 c1 a2 c2] w fun r w' => r = .returned (.bool true) ∧ Below w.heap.size w w' :=
  lawRgGH s  (goodRg s) a0 a1 a2 c0 c1 c2 w hs hL (fun hb u b0 b1 b2 d0 d1 d2 h => specGoodRg_any s  b0 b1 b2 d0 d1 d2 u h hb.len) (fun hb u b0 b1 b2 d0 d1 d2 h => implGoodRg_any s  b0 b1 b2 d0 d1 d2 u h hb)

end Go.Proofs.Ytgiekkipkgdjaaa
