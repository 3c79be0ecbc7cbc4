/-
  The walk of the law FnExactLagIn: at all that can be read it answers true and leaves what was there as it was. Made by mkwlaw.py.
-/
import Derived.Test.YtkhbgdnhkaeamaaLawHGrL
import Derived.Test.YtkhbgdnhkaeamaaGrS3
import Derived.Test.YtkhbgdnhkaeamaaGrI4
namespace Go.Proofs.Ytkhbgdnhkaeamaa
open Go.RowKit

theorem lawGrL_any (s : Gr) (z1 : Int) (a0 a1 : Option Addr) (c0 c1 : Nat) (w : World) (hs : GrR w s a0 a1) (hL : GrL s) :
    Calls Try.prog 5 #[grV s a0 c0 a1 c1, .int .i64 z1] w fun r w' => r = .returned (.bool true) ∧ Below w.heap.size w w' :=
  lawGrLH s z1 (lgN s z1) (lgB s z1) a0 a1 c0 c1 w hs hL (fun hb u b0 b1 d0 d1 h => specLagIn_any s z1 b0 b1 d0 d1 u h hb.len) (fun hb u b0 b1 d0 d1 h => implLagIn_any s z1 b0 b1 d0 d1 u h hb)

end Go.Proofs.Ytkhbgdnhkaeamaa
