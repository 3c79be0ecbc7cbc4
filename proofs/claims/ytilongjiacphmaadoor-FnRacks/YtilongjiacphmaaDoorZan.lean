/-
  (Zan, for a seat with QList, which holds the same words.)
-/
import Derived.Test.YtilongjiacphmaaDoorQList
import Derived.Test.YtilongjiacphmaaDoorEp
namespace Go.Proofs.YtilongjiacphmaaDoor
end Go.Proofs.YtilongjiacphmaaDoor
