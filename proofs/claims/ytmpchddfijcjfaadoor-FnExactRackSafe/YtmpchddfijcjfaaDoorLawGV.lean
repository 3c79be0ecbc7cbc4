/-
  The walk of the law FnExactGoodVotes: at all votes that can be read it answers true and leaves what was there as it was.
-/
import Derived.Test.YtmpchddfijcjfaaDoorVot
import Derived.Deep.RegionWith
namespace Go.Proofs.YtmpchddfijcjfaaDoor
open Go.RowKit

theorem Below.step6 {W a b : World} (h : Below W.heap.size W a) (k : Below a.heap.size a b) : Below W.heap.size W b := h.trans (k.mono h.size)

end Go.Proofs.YtmpchddfijcjfaaDoor
