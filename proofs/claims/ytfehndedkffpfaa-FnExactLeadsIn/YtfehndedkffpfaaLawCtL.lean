/-
  The walk of the law FnExactLeadsIn: at all that can be read it answers true and leaves what was there as it was. Made by mkwlaw.py.
-/
import Derived.Test.YtfehndedkffpfaaLawHCtL
import Derived.Test.YtfehndedkffpfaaCtS2
import Derived.Test.YtfehndedkffpfaaCtI4
namespace Go.Proofs.Ytfehndedkffpfaa
open Go.RowKit

theorem lawCtL_any (s : Ct) (y1 : Int) (a0 a1 : Option Addr) (c0 c1 : Nat) (w : World) (hs : CtR w s a0 a1) (hL : CtL s) :
    Calls Try.prog 7 #[ctV s a0 c0 a1 c1, .int .i64 y1] w fun r w' => r = .returned (.bool true) ∧ Below w.heap.size w w' :=
  lawCtLH s y1 (ldsL s y1) (ldsB s y1) a0 a1 c0 c1 w hs hL (ldsL_len s y1) (fun hb u b0 b1 d0 d1 h => specLeadsIn_any s y1 b0 b1 d0 d1 u h hb.len) (fun hb u b0 b1 d0 d1 h => implLeadsIn_any s y1 b0 b1 d0 d1 u h hb)

end Go.Proofs.Ytfehndedkffpfaa
