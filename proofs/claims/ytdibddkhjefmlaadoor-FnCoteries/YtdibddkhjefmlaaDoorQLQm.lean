/-
  Least quorums are few, and short.
-/
import Derived.Test.YtdibddkhjefmlaaDoorQLQ
namespace Go.Proofs.YtdibddkhjefmlaaDoor
open Go.RowKit

theorem lstTo_small (en : Nat → Bool) {k : Nat} (hk : k ≤ 128) : (lstTo en k).length ≤ 128 ∧ ∀ zs ∈ lstTo en k, zs.length ≤ 7 := by
  refine ⟨Nat.le_trans (lstTo_len en k) hk, fun zs hz => ?_⟩
  obtain ⟨n, -, rfl⟩ := List.mem_map.1 hz
  exact mi_len n

theorem lqL_small (zs : List Int) (need : Int) : (lqL zs need).length ≤ 128 ∧ ∀ l ∈ lqL zs need, l.length ≤ 7 := by
  unfold lqL
  split
  · rename_i h
    exact lstTo_small _ (pow_small _ (goodV_t.1 h).2.1.2)
  · simp

end Go.Proofs.YtdibddkhjefmlaaDoor
