/-
  Groups of replicas, the specification's side: LagIn. Made by mkgrs.py.
-/
import Derived.Test.YtkhbgdnhkaeamaaDoorGrS2
namespace Go.Proofs.YtkhbgdnhkaeamaaDoor
open Go.RowKit

theorem lg_bad {g : Gr} {k : Int} (h : lgB g k = false) : lgN g k = 0 ∧ lgB g k = false := by simp [lgN, h]

end Go.Proofs.YtkhbgdnhkaeamaaDoor
