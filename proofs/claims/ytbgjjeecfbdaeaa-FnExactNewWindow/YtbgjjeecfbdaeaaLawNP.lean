/-
  The walk of the law FnExactNewPart, the contract of spec.NewPart given: it answers true and leaves what was there as it was.
-/
import Derived.Test.YtbgjjeecfbdaeaaOneP
namespace Go.Proofs.Ytbgjjeecfbdaeaa
open Go.RowKit

/-- What spec.NewPart answers. -/
def NpAns (w : World) (r : Ending) (w' : World) : Prop :=
  ∃ gp cp gl cl, r = .returned (.agg #[.slice (some ⟨gp, 0, none⟩) 1 cp, .slice (some ⟨gl, 0, none⟩) 1 cl, .int .i64 1]) ∧ Prs w' (some ⟨gp, 0, none⟩) [prOne 0 0 0 [⟨#[]⟩]] ∧ Bats w' (some ⟨gl, 0, none⟩) [btOne 0 0 0 [⟨#[]⟩]] ∧ Below w.heap.size w w'

end Go.Proofs.Ytbgjjeecfbdaeaa
