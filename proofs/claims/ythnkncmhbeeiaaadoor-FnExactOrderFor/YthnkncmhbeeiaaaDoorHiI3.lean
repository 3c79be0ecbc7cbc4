/-
  Histories, the program's side: impl.IsLegal. Made by mkhii2.py.
-/
import Derived.Test.YthnkncmhbeeiaaaDoorHiI2
import Derived.Test.YthnkncmhbeeiaaaDoorHiS2
namespace Go.Proofs.YthnkncmhbeeiaaaDoor
open Go.RowKit

theorem behind_t (p q r p' q' r' : Int) (x : Cl) (w : World) (ho : 0 ≤ x.object ∧ x.object ≤ 2) (h : lgS [p, q, r] x = some [p', q', r']) :
    Calls Tryd.prog 35 #[arV p q r, clV x] w fun e w' => e = .returned (.tuple #[arV p' q' r', .bool true]) ∧ Below w.heap.size w w' := by
  refine (behind_any p q r x w ho).mono ?_
  rintro e w' ⟨h1, hB⟩
  refine ⟨?_, hB⟩
  rcases h1 with ⟨a, b, c, h1, h2⟩ | ⟨h1, h2⟩
  · rw [h] at h1
    simp only [Option.some.injEq, List.cons.injEq, and_true] at h1
    obtain ⟨rfl, rfl, rfl⟩ := h1
    exact h2
  · rw [h] at h1; cases h1
theorem behind_f (p q r : Int) (x : Cl) (w : World) (ho : 0 ≤ x.object ∧ x.object ≤ 2) (h : lgS [p, q, r] x = none) :
    Calls Tryd.prog 35 #[arV p q r, clV x] w fun e w' => e = .returned (.tuple #[arV p q r, .bool false]) ∧ Below w.heap.size w w' := by
  refine (behind_any p q r x w ho).mono ?_
  rintro e w' ⟨h1, hB⟩
  refine ⟨?_, hB⟩
  rcases h1 with ⟨a, b, c, h1, h2⟩ | ⟨h1, h2⟩
  · rw [h] at h1; cases h1
  · exact h2

end Go.Proofs.YthnkncmhbeeiaaaDoor
