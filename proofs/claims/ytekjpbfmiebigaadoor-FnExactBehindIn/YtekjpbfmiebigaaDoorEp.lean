/-
  Logs told by epochs: spec.GoodEntries and impl.GoodEntries answer the same Bool, 'goodE', at every list of numbers that can be read.
-/
import Derived.Test.YtekjpbfmiebigaaDoorGood
import Derived.Test.YtekjpbfmiebigaaDoorInts
namespace Go.Proofs.YtekjpbfmiebigaaDoor
open Go.RowKit

def zA (zs : List Int) (i : Nat) : Int := zs.getD i 0
def okE (zs : List Int) (k : Nat) : Prop := ∀ i, i < k → 0 ≤ zA zs i ∧ zA zs i ≤ 100 ∧ (0 < i → zA zs (i - 1) ≤ zA zs i)
instance (zs : List Int) (k : Nat) : Decidable (okE zs k) := by unfold okE; infer_instance
def goodE (zs : List Int) : Bool := decide (zs.length ≤ 30 ∧ okE zs zs.length)

theorem goodE_t {zs : List Int} : goodE zs = true ↔ zs.length ≤ 30 ∧ okE zs zs.length := by simp [goodE]
theorem goodE_f {zs : List Int} (h : ¬ (zs.length ≤ 30 ∧ okE zs zs.length)) : goodE zs = false := by simp only [goodE, decide_eq_false_iff_not]; exact h

theorem zA_some {zs : List Int} {k : Nat} {z : Int} (h : zs[k]? = some z) : zA zs k = z := by
  unfold zA; rw [List.getD_eq_getElem?_getD, h]; rfl
theorem zA_get {zs : List Int} {k : Nat} (h : k < zs.length) : zs[k]? = some (zA zs k) := by
  unfold zA; rw [List.getD_eq_getElem?_getD, List.getElem?_eq_getElem h]; rfl

theorem okE_succ {zs : List Int} {k : Nat} (h : okE zs k) (h0 : 0 ≤ zA zs k) (h1 : zA zs k ≤ 100) (h2 : 0 < k → zA zs (k - 1) ≤ zA zs k) : okE zs (k + 1) := fun i hi => by
  by_cases e : i = k
  · subst e; exact ⟨h0, h1, h2⟩
  · exact h i (by omega)

theorem okE_bad {zs : List Int} {k : Nat} (hk : k < zs.length) (h : ¬ (0 ≤ zA zs k ∧ zA zs k ≤ 100 ∧ (0 < k → zA zs (k - 1) ≤ zA zs k))) : goodE zs = false :=
  goodE_f fun g => h (g.2 k hk)

end Go.Proofs.YtekjpbfmiebigaaDoor
