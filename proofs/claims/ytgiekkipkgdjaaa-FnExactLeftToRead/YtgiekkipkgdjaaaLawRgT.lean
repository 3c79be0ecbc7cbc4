/-
  The walk of the law FnExactLeftToRead: at all that can be read it answers true and leaves what was there as it was. Made by mkwlaw.py.
-/
import Derived.Test.YtgiekkipkgdjaaaLawHRgT
import Derived.Test.YtgiekkipkgdjaaaRgS3
import Derived.Test.YtgiekkipkgdjaaaRgI
namespace Go.Proofs.Ytgiekkipkgdjaaa
open Go.RowKit

theorem lawRgT_any (s : Rg) (a0 a1 a2 : Option Addr) (c0 c1 c2 : Nat) (w : World) (hs : RgR w s a0 a1 a2) (hL : RgL s) :
    Calls Try.prog 9 #[rgV s a0 c0 a1 c1 a2 c2] w fun r w' => r = .returned (.bool true) ∧ Below w.heap.size w w' :=
  lawRgTH s  (lftN s) (goodRg s) a0 a1 a2 c0 c1 c2 w hs hL (fun hb u b0 b1 b2 d0 d1 d2 h => specLeftToRead_any s  b0 b1 b2 d0 d1 d2 u h hb.len) (fun hb u b0 b1 b2 d0 d1 d2 h => implLeftToRead_any s  b0 b1 b2 d0 d1 d2 u h hb)

end Go.Proofs.Ytgiekkipkgdjaaa
