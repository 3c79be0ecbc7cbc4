/-
  The walk of the law FnExactLeaderOf: at all that can be read it answers true and leaves what was there as it was. Made by mkwlaw.py.
-/
import Derived.Test.YtjicphdjipihfaaLawHElL
import Derived.Test.YtjicphdjipihfaaElS4
import Derived.Test.YtjicphdjipihfaaElI
namespace Go.Proofs.Ytjicphdjipihfaa
open Go.RowKit

theorem lawElL_any (s : El) (z1 : Int) (a0 a1 a2 : Option Addr) (c0 c1 c2 : Nat) (w : World) (hs : ElR w s a0 a1 a2) (hL : ElL s) :
    Calls Try.prog 5 #[elV s a0 c0 a1 c1 a2 c2, .int .i64 z1] w fun r w' => r = .returned (.bool true) ∧ Below w.heap.size w w' :=
  lawElLH s z1 (ldN s z1) (ldB s z1) a0 a1 a2 c0 c1 c2 w hs hL (fun hb u b0 b1 b2 d0 d1 d2 h => specLeaderOf_any s z1 b0 b1 b2 d0 d1 d2 u h hb.len) (fun hb u b0 b1 b2 d0 d1 d2 h => implLeaderOf_any s z1 b0 b1 b2 d0 d1 d2 u h hb)

end Go.Proofs.Ytjicphdjipihfaa
