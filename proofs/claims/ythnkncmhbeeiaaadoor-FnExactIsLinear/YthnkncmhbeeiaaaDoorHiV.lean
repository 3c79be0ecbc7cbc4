/-
  Histories, the program's side: slices.Values of a list that a box holds, slices.Collect of it, slices.Sorted of at most 12 numbers.
-/
import Derived.RangeFuncNested
import Derived.RangeFuncBound
import Derived.RangeFuncCalls
import Derived.RangeFuncLeaves
import Derived.RangeFuncBox
import Derived.Shelf.Abstract
import Derived.OwnWalkIn
import Derived.TacticsInMore
import Derived.LoopNIn
import Derived.LoopIn
import Derived.Maps.AppendAt
import Derived.Test.YthnkncmhbeeiaaaDoorHmT
import Derived.Test.YthnkncmhbeeiaaaDoorZan
import Derived.Test.YthnkncmhbeeiaaaDoorAppZ
namespace Go.Proofs.YthnkncmhbeeiaaaDoor
open Go.RowKit Go.Shelf

attribute [local go_sem] Oper.semAt_some

theorem takeZ_snoc {zs : List Int} {p : Nat} (h : p < zs.length) : zs.take (p + 1) = zs.take p ++ [zA zs p] := by
  rw [List.take_add_one, zA_get h]; rfl

end Go.Proofs.YthnkncmhbeeiaaaDoor
