/-
  (Zan, for a seat with QList, which holds the same words.)
-/
import Derived.Test.YtmbfdonefpegeaaDoorQList
import Derived.Test.YtmbfdonefpegeaaDoorEp
namespace Go.Proofs.YtmbfdonefpegeaaDoor
end Go.Proofs.YtmbfdonefpegeaaDoor
