/-
  Least lists, plainly: the sets that are enough, and are not without any one of their own.
-/
import Derived.Test.YtdibddkhjefmlaaDoorQWt
namespace Go.Proofs.YtdibddkhjefmlaaDoor
open Go.RowKit

def ndE (en : Nat → Bool) (n : Nat) : Bool := (mem7 n).all fun m => !en (wo n (2 ^ m))
def lstB (en : Nat → Bool) (n : Nat) : Bool := en n && ndE en n
def lstTo (en : Nat → Bool) (k : Nat) : List (List Int) := ((List.range k).filter (lstB en)).map mi

theorem lstTo_succ (en : Nat → Bool) (k : Nat) : lstTo en (k + 1) = lstTo en k ++ (if lstB en k then [mi k] else []) := by
  unfold lstTo
  rw [List.range_succ, List.filter_append, List.map_append]
  cases h : lstB en k <;> simp [h]
theorem lstTo_len (en : Nat → Bool) (k : Nat) : (lstTo en k).length ≤ k := by
  unfold lstTo
  rw [List.length_map]
  exact Nat.le_trans (List.length_filter_le _ _) (by simp)

theorem ndE_no {en : Nat → Bool} {n m : Nat} (hm : m ∈ mem7 n) (h : en (wo n (2 ^ m)) = true) : ndE en n = false := by
  rw [Bool.eq_false_iff]; intro g
  have := List.all_eq_true.1 g m hm
  rw [h] at this; cases this

theorem ndE_yes {en : Nat → Bool} {n : Nat} (h : ∀ j, j < (mi n).length → en (wo n (2 ^ (zA (mi n) j).toNat)) = false) : ndE en n = true := by
  refine List.all_eq_true.2 fun m hm => ?_
  obtain ⟨j, hj⟩ := List.getElem?_of_mem hm
  have h1 : (mi n)[j]? = some (m : Int) := by unfold mi; rw [List.getElem?_map, hj]; rfl
  have := h j (List.getElem?_eq_some_iff.1 h1).1
  rw [zA_some h1] at this
  rw [show ((m : Int)).toNat = m from rfl] at this
  rw [this]; rfl

end Go.Proofs.YtdibddkhjefmlaaDoor
