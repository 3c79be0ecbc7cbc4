/-
  The walk of the law FnExactOfflineParts: at all that can be read it answers true and leaves what was there as it was. Made by mkwlaw.py.
-/
import Derived.Test.YtfehndedkffpfaaLawHCtO
import Derived.Test.YtfehndedkffpfaaCtS2
import Derived.Test.YtfehndedkffpfaaCtI4
namespace Go.Proofs.Ytfehndedkffpfaa
open Go.RowKit

theorem lawCtO_any (s : Ct) (a0 a1 : Option Addr) (c0 c1 : Nat) (w : World) (hs : CtR w s a0 a1) (hL : CtL s) :
    Calls Try.prog 8 #[ctV s a0 c0 a1 c1] w fun r w' => r = .returned (.bool true) ∧ Below w.heap.size w w' :=
  lawCtOH s  (offL s) (goodCt s) a0 a1 c0 c1 w hs hL (offL_len s) (fun hb u b0 b1 d0 d1 h => specOfflineParts_any s  b0 b1 d0 d1 u h hb.len) (fun hb u b0 b1 d0 d1 h => implOfflineParts_any s  b0 b1 d0 d1 u h hb)

end Go.Proofs.Ytfehndedkffpfaa
