/-
  The walk of the law FnExactGoodElection: at all that can be read it answers true and leaves what was there as it was. Made by mkwlaw.py.
-/
import Derived.Test.YtjicphdjipihfaaLawHElG
import Derived.Test.YtjicphdjipihfaaElS4
import Derived.Test.YtjicphdjipihfaaElI
namespace Go.Proofs.Ytjicphdjipihfaa
open Go.RowKit

theorem lawElG_any (s : El) (a0 a1 a2 : Option Addr) (c0 c1 c2 : Nat) (w : World) (hs : ElR w s a0 a1 a2) (hL : ElL s) :
    Calls Try.prog 4 #[elV s a0 c0 a1 c1 a2 c2] w fun r w' => r = .returned (.bool true) ∧ Below w.heap.size w w' :=
  lawElGH s  (goodEl s) a0 a1 a2 c0 c1 c2 w hs hL (fun hb u b0 b1 b2 d0 d1 d2 h => specGoodEl_any s  b0 b1 b2 d0 d1 d2 u h hb.len) (fun hb u b0 b1 b2 d0 d1 d2 h => implGoodEl_any s  b0 b1 b2 d0 d1 d2 u h hb)

end Go.Proofs.Ytjicphdjipihfaa
