/-
  Least lists, the program's side, handed the function literal of impl.LeastQuorums: the contracts of impl.needsEach and impl.leastLists, the literal's own contract given.
-/
import Derived.Test.YtdibddkhjefmlaaDoorQOut
import Derived.Test.YtdibddkhjefmlaaDoorQLst
import Derived.Deep.RegionHeld3
namespace Go.Proofs.YtdibddkhjefmlaaDoor
open Go.RowKit

end Go.Proofs.YtdibddkhjefmlaaDoor
