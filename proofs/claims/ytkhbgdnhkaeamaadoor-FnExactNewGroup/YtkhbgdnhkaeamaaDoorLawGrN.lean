/-
  The walk of the law FnExactNewGroup: at all numbers it answers true and leaves what was there as it was, where the table of math/bits is laid. Made by mkgri3.py.
-/
import Derived.Test.YtkhbgdnhkaeamaaDoorLawHGrNd
import Derived.Test.YtkhbgdnhkaeamaaDoorGrNS
import Derived.Test.YtkhbgdnhkaeamaaDoorGrI6
namespace Go.Proofs.YtkhbgdnhkaeamaaDoor
open Go.RowKit

theorem lawNewGroup_any (z0 : Int) (w : World) (HT : TabQ w) : Calls Tryd.prog 3 #[.int .i64 z0] w fun r w' => r = .returned (.bool true) ∧ Below w.heap.size w w' :=
  lawGrNHd z0 (newGr z0) (inB z0 2 4) w (newGr_small z0).1 (newGr_small z0).2 (fun u => specNewGr_any z0 u) (fun u hu => implNewGr_any z0 u (HT.bel hu))

end Go.Proofs.YtkhbgdnhkaeamaaDoor
