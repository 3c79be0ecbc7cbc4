/-
  The walk of the law FnExactNewCluster: at all numbers it answers true and leaves what was there as it was, where the table of math/bits is laid. Made by mkcunlaw.py.
-/
import Derived.Test.YtekjpbfmiebigaaDoorLawHCuNd
import Derived.Test.YtekjpbfmiebigaaDoorCuNwI
namespace Go.Proofs.YtekjpbfmiebigaaDoor
open Go.RowKit

theorem lawNewCluster_any (z0 : Int) (w : World) (HT : TabQ w) : Calls Tryd.prog 3 #[.int .i64 z0] w fun r w' => r = .returned (.bool true) ∧ Below w.heap.size w w' :=
  lawCuNHd z0 (newCu z0) (inB z0 2 4) w (newCu_small z0).1 (newCu_small z0).2 (fun u => specNewCu_any z0 u) (fun u hu => implNewCu_any z0 u (HT.bel hu))

end Go.Proofs.YtekjpbfmiebigaaDoor
