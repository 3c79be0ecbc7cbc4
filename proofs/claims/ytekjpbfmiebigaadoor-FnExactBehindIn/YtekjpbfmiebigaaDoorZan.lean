/-
  (Zan, for a seat with QList, which holds the same words.)
-/
import Derived.Test.YtekjpbfmiebigaaDoorQList
import Derived.Test.YtekjpbfmiebigaaDoorEp
namespace Go.Proofs.YtekjpbfmiebigaaDoor
end Go.Proofs.YtekjpbfmiebigaaDoor
