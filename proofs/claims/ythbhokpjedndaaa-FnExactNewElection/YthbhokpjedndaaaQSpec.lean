/-
  Groups of members, the specification's side: the contracts of spec.l1Has, l6Group, l6Groups, l6Meet, l6All, l6Has, l6Coterie, l6Each.
-/
import Derived.Test.YthbhokpjedndaaaIss
namespace Go.Proofs.Ythbhokpjedndaaa
open Go.RowKit

theorem zA_mem {zs : List Int} {n : Int} : n ∈ zs ↔ ∃ i, i < zs.length ∧ zA zs i = n := by
  constructor
  · intro h
    obtain ⟨i, hi⟩ := List.getElem?_of_mem h
    exact ⟨i, (List.getElem?_eq_some_iff.1 hi).1, zA_some hi⟩
  · rintro ⟨i, hi, rfl⟩
    exact List.mem_of_getElem? (zA_get hi)

def lA (L : List (List Int)) (i : Nat) : List Int := L.getD i []
theorem lA_some {L : List (List Int)} {k : Nat} {z : List Int} (h : L[k]? = some z) : lA L k = z := by
  unfold lA; rw [List.getD_eq_getElem?_getD, h]; rfl
theorem lA_get {L : List (List Int)} {k : Nat} (h : k < L.length) : L[k]? = some (lA L k) := by
  unfold lA; rw [List.getD_eq_getElem?_getD, List.getElem?_eq_getElem h]; rfl

/-- The first k groups are good. -/
def grTo (L : List (List Int)) (many : Int) (k : Nat) : Prop := ∀ i, i < k → 0 < (lA L i).length ∧ riseB (lA L i) many = true
instance (L : List (List Int)) (many : Int) (k : Nat) : Decidable (grTo L many k) := by unfold grTo; infer_instance
def goodL (L : List (List Int)) (many : Int) : Bool := decide (grTo L many L.length) && decide (L.length ≤ 40)
theorem goodL_t {L : List (List Int)} {many : Int} : goodL L many = true ↔ grTo L many L.length ∧ L.length ≤ 40 := by simp [goodL]
theorem goodL_bad {L : List (List Int)} {many : Int} {k : Nat} (hk : k < L.length) (h : ¬ (0 < (lA L k).length ∧ riseB (lA L k) many = true)) : goodL L many = false := by
  rw [Bool.eq_false_iff]; intro g; exact h ((goodL_t.1 g).1 k hk)
theorem grTo_succ {L : List (List Int)} {many : Int} {k : Nat} (h : grTo L many k) (h0 : 0 < (lA L k).length) (h1 : riseB (lA L k) many = true) : grTo L many (k + 1) := fun i hi => by
  by_cases e : i = k
  · subst e; exact ⟨h0, h1⟩
  · exact h i (by omega)

/-- Each of the first k meets those ahead of it. -/
def metTo (L : List (List Int)) (k : Nat) : Prop := ∀ i, i < k → ∀ j, j < i → meetL (lA L i) (lA L j) = true
instance (L : List (List Int)) (k : Nat) : Decidable (metTo L k) := by unfold metTo; infer_instance
def allL (L : List (List Int)) : Bool := decide (metTo L L.length)
theorem allL_t {L : List (List Int)} : allL L = true ↔ metTo L L.length := by simp [allL]
theorem allL_bad {L : List (List Int)} {k j : Nat} (hk : k < L.length) (hj : j < k) (h : meetL (lA L k) (lA L j) = false) : allL L = false := by
  rw [Bool.eq_false_iff]; intro g; have := allL_t.1 g k hk j hj; rw [h] at this; cases this

end Go.Proofs.Ythbhokpjedndaaa
