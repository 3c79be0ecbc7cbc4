/-
  The walk of the law FnExactGoodGroup: at all that can be read it answers true and leaves what was there as it was. Made by mkwlaw.py.
-/
import Derived.Test.YtkhbgdnhkaeamaaLawHGrG
import Derived.Test.YtkhbgdnhkaeamaaGrS3
import Derived.Test.YtkhbgdnhkaeamaaGrI3
namespace Go.Proofs.Ytkhbgdnhkaeamaa
open Go.RowKit

theorem lawGrG_any (s : Gr) (a0 a1 : Option Addr) (c0 c1 : Nat) (w : World) (hs : GrR w s a0 a1) (hL : GrL s) :
    Calls Try.prog 3 #[grV s a0 c0 a1 c1] w fun r w' => r = .returned (.bool true) ∧ Below w.heap.size w w' :=
  lawGrGH s  (goodGr s) a0 a1 c0 c1 w hs hL (fun hb u b0 b1 d0 d1 h => specGoodGr_any s  b0 b1 d0 d1 u h hb.len) (fun hb u b0 b1 d0 d1 h => implGoodGr_any s  b0 b1 d0 d1 u h hb)

end Go.Proofs.Ytkhbgdnhkaeamaa
