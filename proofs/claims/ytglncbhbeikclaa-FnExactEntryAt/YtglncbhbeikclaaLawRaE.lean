/-
  The walk of the law FnExactEntryAt: at all that can be read it answers true and leaves what was there as it was. Made by mkwlaw.py.
-/
import Derived.Test.YtglncbhbeikclaaLawHRaE
import Derived.Test.YtglncbhbeikclaaRaE
import Derived.Test.YtglncbhbeikclaaRaI4
namespace Go.Proofs.Ytglncbhbeikclaa
open Go.RowKit

theorem lawRaE_any (s : Ra) (z1 : Int) (z2 : Int) (a0 a1 : Option Addr) (c0 c1 : Nat) (w : World) (hs : RaR w s a0 a1) (hL : RaL s) :
    Calls Try.prog 8 #[raV s a0 c0 a1 c1, .int .i64 z1, .int .i64 z2] w fun r w' => r = .returned (.bool true) ∧ Below w.heap.size w w' :=
  lawRaEH s z1 z2 (eaA s z1 z2) (eaB s z1 z2) a0 a1 c0 c1 w hs hL (fun hb u b0 b1 d0 d1 h => specEntryAt_any s z1 z2 b0 b1 d0 d1 u h hb.len) (fun hb u b0 b1 d0 d1 h => implEntryAt_any s z1 z2 b0 b1 d0 d1 u h hb)

end Go.Proofs.Ytglncbhbeikclaa
