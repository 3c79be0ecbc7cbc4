/-
  (Zan, for a seat with QList, which holds the same words.)
-/
import Derived.Test.YtfehndedkffpfaaDoorQList
import Derived.Test.YtfehndedkffpfaaDoorEp
namespace Go.Proofs.YtfehndedkffpfaaDoor
end Go.Proofs.YtfehndedkffpfaaDoor
