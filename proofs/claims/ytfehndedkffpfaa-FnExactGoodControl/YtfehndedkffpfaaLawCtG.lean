/-
  The walk of the law FnExactGoodControl: at all that can be read it answers true and leaves what was there as it was. Made by mkwlaw.py.
-/
import Derived.Test.YtfehndedkffpfaaLawHCtG
import Derived.Test.YtfehndedkffpfaaCtS
import Derived.Test.YtfehndedkffpfaaCtI3
namespace Go.Proofs.Ytfehndedkffpfaa
open Go.RowKit

theorem lawCtG_any (s : Ct) (a0 a1 : Option Addr) (c0 c1 : Nat) (w : World) (hs : CtR w s a0 a1) (hL : CtL s) :
    Calls Try.prog 4 #[ctV s a0 c0 a1 c1] w fun r w' => r = .returned (.bool true) ∧ Below w.heap.size w w' :=
  lawCtGH s  (goodCt s) a0 a1 c0 c1 w hs hL (fun hb u b0 b1 d0 d1 h => specGoodCt_any s  b0 b1 d0 d1 u h hb.len) (fun hb u b0 b1 d0 d1 h => implGoodCt_any s  b0 b1 d0 d1 u h hb)

end Go.Proofs.Ytfehndedkffpfaa
