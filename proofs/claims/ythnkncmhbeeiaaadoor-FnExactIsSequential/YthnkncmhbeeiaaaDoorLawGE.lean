/-
  The walk of the law FnExactGoodEntries: at every list of numbers that can be read it answers true and leaves what was there as it was.
-/
import Derived.Test.YthnkncmhbeeiaaaDoorEp
namespace Go.Proofs.YthnkncmhbeeiaaaDoor
open Go.RowKit

theorem Below.stp {W a b : World} (h : Below W.heap.size W a) (k : Below a.heap.size a b) : Below W.heap.size W b := h.trans (k.mono h.size)

end Go.Proofs.YthnkncmhbeeiaaaDoor
