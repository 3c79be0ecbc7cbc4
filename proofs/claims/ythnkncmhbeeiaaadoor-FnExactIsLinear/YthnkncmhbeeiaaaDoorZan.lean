/-
  (Zan, for a seat with QList, which holds the same words.)
-/
import Derived.Test.YthnkncmhbeeiaaaDoorQList
import Derived.Test.YthnkncmhbeeiaaaDoorEp
namespace Go.Proofs.YthnkncmhbeeiaaaDoor
end Go.Proofs.YthnkncmhbeeiaaaDoor
