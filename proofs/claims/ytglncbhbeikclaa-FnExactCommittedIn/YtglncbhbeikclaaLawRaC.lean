/-
  The walk of the law FnExactCommittedIn: at all that can be read it answers true and leaves what was there as it was. Made by mkwlaw.py.
-/
import Derived.Test.YtglncbhbeikclaaLawHRaC
import Derived.Test.YtglncbhbeikclaaRaC
import Derived.Test.YtglncbhbeikclaaRaI5
namespace Go.Proofs.Ytglncbhbeikclaa
open Go.RowKit

theorem lawRaC_any (s : Ra) (a0 a1 : Option Addr) (c0 c1 : Nat) (w : World) (hs : RaR w s a0 a1) (hL : RaL s) :
    Calls Try.prog 5 #[raV s a0 c0 a1 c1] w fun r w' => r = .returned (.bool true) ∧ Below w.heap.size w w' :=
  lawRaCH s  (comL s) (goodRa s) a0 a1 c0 c1 w hs hL (comL_len s) (fun hb u b0 b1 d0 d1 h hk => specCommittedIn_any s  b0 b1 d0 d1 u h hk hb.len) (fun hb u b0 b1 d0 d1 h hk => implCommittedIn_any s  b0 b1 d0 d1 u h hk hb)

end Go.Proofs.Ytglncbhbeikclaa
