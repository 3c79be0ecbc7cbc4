/-
  The walk of the law FnExactGoodRaft: at all that can be read it answers true and leaves what was there as it was. Made by mkwlaw.py.
-/
import Derived.Test.YtglncbhbeikclaaLawHRaG
import Derived.Test.YtglncbhbeikclaaRaS3
import Derived.Test.YtglncbhbeikclaaRaI3
namespace Go.Proofs.Ytglncbhbeikclaa
open Go.RowKit

theorem lawRaG_any (s : Ra) (a0 a1 : Option Addr) (c0 c1 : Nat) (w : World) (hs : RaR w s a0 a1) (hL : RaL s) :
    Calls Try.prog 4 #[raV s a0 c0 a1 c1] w fun r w' => r = .returned (.bool true) ∧ Below w.heap.size w w' :=
  lawRaGH s  (goodRa s) a0 a1 c0 c1 w hs hL (fun hb u b0 b1 d0 d1 h => specGoodRa_any s  b0 b1 d0 d1 u h hb.len) (fun hb u b0 b1 d0 d1 h => implGoodRa_any s  b0 b1 d0 d1 u h hb)

end Go.Proofs.Ytglncbhbeikclaa
