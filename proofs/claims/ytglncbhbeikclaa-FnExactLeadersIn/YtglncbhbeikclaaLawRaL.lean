/-
  The walk of the law FnExactLeadersIn: at all that can be read it answers true and leaves what was there as it was. Made by mkwlaw.py.
-/
import Derived.Test.YtglncbhbeikclaaLawHRaL
import Derived.Test.YtglncbhbeikclaaRaS3
import Derived.Test.YtglncbhbeikclaaRaI4
namespace Go.Proofs.Ytglncbhbeikclaa
open Go.RowKit

theorem lawRaL_any (s : Ra) (a0 a1 : Option Addr) (c0 c1 : Nat) (w : World) (hs : RaR w s a0 a1) (hL : RaL s) :
    Calls Try.prog 7 #[raV s a0 c0 a1 c1] w fun r w' => r = .returned (.bool true) ∧ Below w.heap.size w w' :=
  lawRaLH s  (ldrs s) (goodRa s) a0 a1 c0 c1 w hs hL (ldrs_len s) (fun hb u b0 b1 d0 d1 h => specLeadersIn_any s  b0 b1 d0 d1 u h hb.len) (fun hb u b0 b1 d0 d1 h => implLeadersIn_any s  b0 b1 d0 d1 u h hb)

end Go.Proofs.Ytglncbhbeikclaa
