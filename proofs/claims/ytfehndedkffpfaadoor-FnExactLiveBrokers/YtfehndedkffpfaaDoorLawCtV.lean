/-
  The walk of the law FnExactLiveBrokers: at all that can be read it answers true and leaves what was there as it was, where the table of math/bits is laid. Made by mkcti.py.
-/
import Derived.Test.YtfehndedkffpfaaDoorLawHCtVd
import Derived.Test.YtfehndedkffpfaaDoorCtS2
import Derived.Test.YtfehndedkffpfaaDoorCtI6
namespace Go.Proofs.YtfehndedkffpfaaDoor
open Go.RowKit

theorem lawLiveBrokers_any (s : Ct) (a0 a1 : Option Addr) (c0 c1 : Nat) (w : World) (hs : CtR w s a0 a1) (hL : CtL s) (HT : TabQ w) :
    Calls Tryd.prog 3 #[ctV s a0 c0 a1 c1] w fun r w' => r = .returned (.bool true) ∧ Below w.heap.size w w' :=
  lawCtVHd s (liveL s) (goodCt s) a0 a1 c0 c1 w hs hL (liveL_len s) (fun hb u b0 b1 d0 d1 h => specLiveBrokers_any s b0 b1 d0 d1 u h hb.len) (fun hb u b0 b1 d0 d1 h hu => implLiveBrokers_any s b0 b1 d0 d1 u h hb (HT.bel hu))

end Go.Proofs.YtfehndedkffpfaaDoor
