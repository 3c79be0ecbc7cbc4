/-
  Logs of rows in plain mathematics: good logs, what two logs share from the front. Made by mkcus.py (out of GrM).
-/
import Derived.Test.YtekjpbfmiebigaaDoorRwi
import Derived.Test.YtekjpbfmiebigaaDoorGnM
namespace Go.Proofs.YtekjpbfmiebigaaDoor
open Go.RowKit

def rwA (l : List Rw) (i : Nat) : Rw := l.getD i ⟨0, 0⟩
theorem rwA_some {l : List Rw} {k : Nat} {z : Rw} (h : l[k]? = some z) : rwA l k = z := by simp [rwA, List.getD_eq_getElem?_getD, h]
theorem rwA_get {l : List Rw} {k : Nat} (h : k < l.length) : l[k]? = some (rwA l k) := by simp [rwA, List.getD_eq_getElem?_getD, List.getElem?_eq_getElem h]
def rwOk (l : List Rw) (epoch : Int) (i : Nat) : Prop := inB (rwA l i).epoch 0 epoch = true ∧ inB (rwA l i).val 0 99 = true ∧ (0 < i → (rwA l (i - 1)).epoch ≤ (rwA l i).epoch)
instance (l : List Rw) (epoch : Int) (i : Nat) : Decidable (rwOk l epoch i) := by unfold rwOk; infer_instance
def rwTo (l : List Rw) (epoch : Int) (k : Nat) : Prop := ∀ i, i < k → rwOk l epoch i
instance (l : List Rw) (epoch : Int) (k : Nat) : Decidable (rwTo l epoch k) := by unfold rwTo; infer_instance
def rlogB (l : List Rw) (epoch : Int) : Bool := decide (rwTo l epoch l.length) && decide (l.length ≤ 30)
theorem rlogB_bad {l : List Rw} {epoch : Int} {k : Nat} (hk : k < l.length) (h : ¬ rwOk l epoch k) : rlogB l epoch = false := by
  have : ¬ rwTo l epoch l.length := fun g => h (g k hk)
  simp [rlogB, this]
theorem rlogB_len {l : List Rw} {epoch : Int} (h : rwTo l epoch l.length) : rlogB l epoch = decide (l.length ≤ 30) := by simp [rlogB, h]
theorem rwTo_succ {l : List Rw} {epoch : Int} {k : Nat} (h : rwTo l epoch k) (hk : rwOk l epoch k) : rwTo l epoch (k + 1) := fun i hi => by
  rcases Nat.lt_or_eq_of_le (Nat.le_of_lt_succ hi) with h1 | rfl
  · exact h i h1
  · exact hk

/-- How many rows two logs share from the front. -/
def sameN : List Rw → List Rw → Nat
  | x :: xs, y :: ys => if x = y then sameN xs ys + 1 else 0
  | _, _ => 0
theorem sameN_le : ∀ xs ys, sameN xs ys ≤ xs.length ∧ sameN xs ys ≤ ys.length
  | [], ys => by simp [sameN]
  | x :: xs, [] => by simp [sameN]
  | x :: xs, y :: ys => by
    have := sameN_le xs ys
    rw [sameN]
    split <;> simp <;> omega
theorem same_step {xs ys : List Rw} {k : Nat} {x : Rw} (h1 : xs[k]? = some x) (h2 : ys[k]? = some x) : sameN (xs.drop k) (ys.drop k) = sameN (xs.drop (k + 1)) (ys.drop (k + 1)) + 1 := by
  rw [dropRw_cons h1, dropRw_cons h2, sameN, if_pos rfl]
theorem same_stop {xs ys : List Rw} {k : Nat} {x y : Rw} (h1 : xs[k]? = some x) (h2 : ys[k]? = some y) (h : x ≠ y) : sameN (xs.drop k) (ys.drop k) = 0 := by
  rw [dropRw_cons h1, dropRw_cons h2, sameN, if_neg h]
theorem same_end1 {xs ys : List Rw} {k : Nat} (h : xs.length ≤ k) : sameN (xs.drop k) (ys.drop k) = 0 := by
  rw [List.drop_eq_nil_of_le h, sameN]; intro _ _ _ _ h; cases h
theorem same_end2 {xs ys : List Rw} {k : Nat} (h : ys.length ≤ k) : sameN (xs.drop k) (ys.drop k) = 0 := by
  rw [List.drop_eq_nil_of_le h, sameN]; intro _ _ _ _ _ h; cases h

end Go.Proofs.YtekjpbfmiebigaaDoor
