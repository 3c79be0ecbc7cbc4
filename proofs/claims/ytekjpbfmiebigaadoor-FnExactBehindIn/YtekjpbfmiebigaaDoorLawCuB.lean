/-
  The walk of the law FnExactBehindIn: at all clusters whose leaders are numbers of 64 bits it answers true and leaves what was there as it was, where errLate holds what errors.New made. Made by mkcublaw.py.
-/
import Derived.Test.YtekjpbfmiebigaaDoorLawHCuBd
import Derived.Test.YtekjpbfmiebigaaDoorCuS5
import Derived.Test.YtekjpbfmiebigaaDoorCuI5
namespace Go.Proofs.YtekjpbfmiebigaaDoor
open Go.RowKit

theorem lawBehindIn_any (s : Cu) (a0 a1 a2 : Option Addr) (c0 c1 c2 : Nat) (w : World) (hs : CuR w s a0 a1 a2) (hL : CuL s) (hr : CuN s) (pe : Addr) (hge : w.cell? ⟨0, 0, none⟩ = some (.iface 126 (.pointer (some pe)))) :
    Calls Tryd.prog 4 #[cuV s a0 c0 a1 c1 a2 c2] w fun r w' => r = .returned (.bool true) ∧ Below w.heap.size w w' :=
  lawCuBHd s (bhdL s) (goodCu s) a0 a1 a2 c0 c1 c2 w hs hL (bhdL_len s) (fun hb u b0 b1 b2 d0 d1 d2 h => specBehindIn_any s b0 b1 b2 d0 d1 d2 u h hb.len) (fun hb u b0 b1 b2 d0 d1 d2 h hu => implBehindIn_any s hr b0 b1 b2 d0 d1 d2 u h hb pe (celB hu hge))

end Go.Proofs.YtekjpbfmiebigaaDoor
