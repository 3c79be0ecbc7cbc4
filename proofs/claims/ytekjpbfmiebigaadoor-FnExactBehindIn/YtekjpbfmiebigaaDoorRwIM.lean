/-
  Logs of rows in the order in which the program asks. Made by mkcui.py out of GrIM.
-/
import Derived.Test.YtekjpbfmiebigaaDoorRwM
namespace Go.Proofs.YtekjpbfmiebigaaDoor
open Go.RowKit

/-- The epoch that a row must not fall below. -/
def leastW (l : List Rw) (i : Nat) : Int := if i = 0 then 0 else (rwA l (i - 1)).epoch
theorem leastW_zero (l : List Rw) : leastW l 0 = 0 := rfl
theorem leastW_succ (l : List Rw) (i : Nat) : leastW l (i + 1) = (rwA l i).epoch := rfl
def twOk (l : List Rw) (most : Int) (i : Nat) : Prop := leastW l i ≤ (rwA l i).epoch ∧ (rwA l i).epoch ≤ most
def twTo (l : List Rw) (most : Int) (k : Nat) : Prop := ∀ i, i < k → twOk l most i
instance (l : List Rw) (most : Int) (i : Nat) : Decidable (twOk l most i) := by unfold twOk; infer_instance
instance (l : List Rw) (most : Int) (k : Nat) : Decidable (twTo l most k) := by unfold twTo; infer_instance
def twB (l : List Rw) (most : Int) : Bool := decide (twTo l most l.length)
theorem twTo_succ {l : List Rw} {most : Int} {k : Nat} (h : twTo l most k) (hk : twOk l most k) : twTo l most (k + 1) := fun i hi => by
  rcases Nat.lt_or_eq_of_le (Nat.le_of_lt_succ hi) with h1 | rfl
  · exact h i h1
  · exact hk
theorem twB_bad {l : List Rw} {most : Int} {k : Nat} (hk : k < l.length) (h : ¬ twOk l most k) : twB l most = false := by
  have : ¬ twTo l most l.length := fun g => h (g k hk)
  simp [twB, this]
theorem twB_done {l : List Rw} {most : Int} (h : twTo l most l.length) : twB l most = true := by simp [twB, h]

def rvalB (e : Rw) : Bool := inB e.val 0 99

theorem rlogB_is (l : List Rw) (most : Int) : rlogB l most = (decide (l.length ≤ 30) && (twB l most && l.all rvalB)) := by
  have key : rwTo l most l.length ↔ twTo l most l.length ∧ l.all rvalB = true := by
    constructor
    · intro h
      refine ⟨fun i hi => ?_, ?_⟩
      · obtain ⟨h1, -, h3⟩ := h i hi
        have h1 := inB_t.1 h1
        refine ⟨?_, h1.2⟩
        unfold leastW
        split
        · exact h1.1
        · exact h3 (by omega)
      · rw [List.all_eq_true]
        intro x hx
        obtain ⟨i, hi, e⟩ := List.getElem_of_mem hx
        have := (h i hi).2.1
        rw [rwA_some (by rw [List.getElem?_eq_getElem hi, e])] at this
        exact this
    · rintro ⟨h1, h2⟩ i hi
      have pos : ∀ j, j < l.length → 0 ≤ (rwA l j).epoch := by
        intro j
        induction j with
        | zero => intro hj; exact (h1 0 hj).1
        | succ j ih => intro hj; have := (h1 (j + 1) hj).1; rw [leastW_succ] at this; have := ih (by omega); omega
      refine ⟨inB_t.2 ⟨pos i hi, (h1 i hi).2⟩, List.all_eq_true.1 h2 _ (List.mem_of_getElem? (rwA_get hi)), fun h0 => ?_⟩
      have := (h1 i hi).1
      unfold leastW at this
      rw [if_neg (by omega)] at this
      exact this
  unfold rlogB twB
  rw [Bool.eq_iff_iff]
  simp only [Bool.and_eq_true, decide_eq_true_eq]
  rw [key]
  constructor
  · rintro ⟨⟨a, b⟩, c⟩; exact ⟨c, a, b⟩
  · rintro ⟨c, a, b⟩; exact ⟨⟨a, b⟩, c⟩

theorem sameN_comm : ∀ a b : List Rw, sameN a b = sameN b a
  | [], [] => rfl
  | [], y :: ys => by simp [sameN]
  | x :: xs, [] => by simp [sameN]
  | x :: xs, y :: ys => by
    rw [sameN, sameN, sameN_comm xs ys]
    by_cases h : x = y
    · rw [if_pos h, if_pos h.symm]
    · rw [if_neg h, if_neg (fun g => h g.symm)]

end Go.Proofs.YtekjpbfmiebigaaDoor
