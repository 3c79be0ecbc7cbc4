/-
  Marks in lists of batches, the walks: markBatchS and heldBatchS.
-/
import Derived.Test.YteklkdnkfgfdiaaDoorMarkLog
namespace Go.Proofs.YteklkdnkfgfdiaaDoor
open Go.RowKit

theorem getQ {qs : List Q} {k : Nat} (h : k < qs.length) : ∃ q, qs[k]? = some q := ⟨_, List.getElem?_eq_getElem h⟩

end Go.Proofs.YteklkdnkfgfdiaaDoor
