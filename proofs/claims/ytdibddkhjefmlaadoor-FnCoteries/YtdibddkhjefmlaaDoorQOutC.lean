/-
  What a function answers that gathers lists, with their room.
-/
import Derived.Test.YtdibddkhjefmlaaDoorQOut
namespace Go.Proofs.YtdibddkhjefmlaaDoor
open Go.RowKit

def LAnsC (w : World) (L : List (List Int)) (ok : Bool) (r : Ending) (w' : World) : Prop :=
  ∃ a c, ∃ qs : List QI, qs.map QI.zs = L ∧ r = .returned (.tuple #[.slice a qs.length c, .bool ok]) ∧ OutQ w' w.heap.size a qs ∧ Below w.heap.size w w' ∧ qs.length ≤ c
theorem lansC_of {w wr : World} {v : Value} {qs : List QI} {L : List (List Int)} {ok : Bool} (h : LSt w wr v qs) (e : qs.map QI.zs = L) : LAnsC w L ok (.returned (.tuple #[v, .bool ok])) wr := by
  obtain ⟨a, c, rfl, h1, -⟩ := ownsZ_cap h.own
  exact ⟨a, c, qs, e, rfl, lst_out h, h.bel, h1⟩

end Go.Proofs.YtdibddkhjefmlaaDoor
