/-
  Aids in plain mathematics that serve every chapter: a place that is there; lists that are looked through.
-/
import Derived.Test.YthbhokpjedndaaaQMath
import Derived.Test.YthbhokpjedndaaaGood
namespace Go.Proofs.Ythbhokpjedndaaa
open Go.RowKit

def thB (n : Nat) (k : Int) : Bool := decide (0 ≤ k) && decide (k < (n : Int))

theorem thB_t {n : Nat} {k : Int} : thB n k = true ↔ 0 ≤ k ∧ k < n := by simp [thB]
theorem thB_f {n : Nat} {k : Int} : thB n k = false ↔ ¬ (0 ≤ k ∧ k < n) := by
  rw [← thB_t]; simp

section allq
variable {α : Type} {f : α → Bool}
/-- The first k pass. -/
def allTo (f : α → Bool) (l : List α) (k : Nat) : Prop := ∀ (i : Nat) x, i < k → l[i]? = some x → f x = true
theorem allTo_zero (f : α → Bool) (l : List α) : allTo f l 0 := fun _ _ hi => absurd hi (Nat.not_lt_zero _)
theorem allTo_succ {l : List α} {k : Nat} {x : α} (h : allTo f l k) (hx : l[k]? = some x) (hf : f x = true) : allTo f l (k + 1) := fun i y hi hy => by
  rcases Nat.lt_or_eq_of_le (Nat.le_of_lt_succ hi) with h1 | rfl
  · exact h i y h1 hy
  · rw [hx] at hy; exact Option.some.inj hy ▸ hf
theorem all_done {l : List α} (h : allTo f l l.length) : l.all f = true := by
  rw [List.all_eq_true]
  intro x hx
  obtain ⟨i, hi, e⟩ := List.getElem_of_mem hx
  exact h i x hi (by rw [List.getElem?_eq_getElem hi, e])
theorem all_bad {l : List α} {k : Nat} {x : α} (hx : l[k]? = some x) (hf : f x = false) : l.all f = false := by
  rw [List.all_eq_false]
  exact ⟨x, List.mem_of_getElem? hx, by simp [hf]⟩
end allq

end Go.Proofs.Ythbhokpjedndaaa
