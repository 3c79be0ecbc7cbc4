/-
  The walk of the law FnExactCommittedRows: at all that can be read it answers true and leaves what was there as it was. Made by mkwlaw.py.
-/
import Derived.Test.YtkhbgdnhkaeamaaLawHGrC
import Derived.Test.YtkhbgdnhkaeamaaGrC
import Derived.Test.YtkhbgdnhkaeamaaGrI5
namespace Go.Proofs.Ytkhbgdnhkaeamaa
open Go.RowKit

theorem lawGrC_any (s : Gr) (a0 a1 : Option Addr) (c0 c1 : Nat) (w : World) (hs : GrR w s a0 a1) (hL : GrL s) :
    Calls Try.prog 4 #[grV s a0 c0 a1 c1] w fun r w' => r = .returned (.bool true) ∧ Below w.heap.size w w' :=
  lawGrCH s  (crL s) (goodGr s) a0 a1 c0 c1 w hs hL (crL_len s) (fun hb u b0 b1 d0 d1 h hk => specCommittedRows_any s  b0 b1 d0 d1 u h hk hb.len) (fun hb u b0 b1 d0 d1 h hk => implCommittedRows_any s  b0 b1 d0 d1 u h hk hb)

end Go.Proofs.Ytkhbgdnhkaeamaa
