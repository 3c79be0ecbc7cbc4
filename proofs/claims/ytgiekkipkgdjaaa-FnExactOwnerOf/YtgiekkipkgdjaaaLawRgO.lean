/-
  The walk of the law FnExactOwnerOf: at all that can be read it answers true and leaves what was there as it was. Made by mkwlaw.py.
-/
import Derived.Test.YtgiekkipkgdjaaaLawHRgO
import Derived.Test.YtgiekkipkgdjaaaRgS3
import Derived.Test.YtgiekkipkgdjaaaRgI
namespace Go.Proofs.Ytgiekkipkgdjaaa
open Go.RowKit

theorem lawRgO_any (s : Rg) (y1 : Int) (a0 a1 a2 : Option Addr) (c0 c1 c2 : Nat) (w : World) (hs : RgR w s a0 a1 a2) (hL : RgL s) :
    Calls Try.prog 8 #[rgV s a0 c0 a1 c1 a2 c2, .int .i64 y1] w fun r w' => r = .returned (.bool true) ∧ Below w.heap.size w w' :=
  lawRgOH s y1 (ownN s y1) (ownB s y1) a0 a1 a2 c0 c1 c2 w hs hL (fun hb u b0 b1 b2 d0 d1 d2 h => specOwnerOf_any s y1 b0 b1 b2 d0 d1 d2 u h hb.len) (fun hb u b0 b1 b2 d0 d1 d2 h => implOwnerOf_any s y1 b0 b1 b2 d0 d1 d2 u h hb)

end Go.Proofs.Ytgiekkipkgdjaaa
