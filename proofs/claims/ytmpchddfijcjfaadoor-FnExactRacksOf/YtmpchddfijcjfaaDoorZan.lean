/-
  (Zan, for a seat with QList, which holds the same words.)
-/
import Derived.Test.YtmpchddfijcjfaaDoorQList
import Derived.Test.YtmpchddfijcjfaaDoorEp
namespace Go.Proofs.YtmpchddfijcjfaaDoor
end Go.Proofs.YtmpchddfijcjfaaDoor
