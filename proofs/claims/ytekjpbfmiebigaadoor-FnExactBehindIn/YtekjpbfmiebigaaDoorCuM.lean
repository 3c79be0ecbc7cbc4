/-
  Clusters in plain mathematics: good views, nodes, clusters; who thinks that he leads, who is behind. Made by mkcus.py.
-/
import Derived.Test.YtekjpbfmiebigaaDoorClu
import Derived.Test.YtekjpbfmiebigaaDoorRwM
import Derived.Test.YtekjpbfmiebigaaDoorQSpec
namespace Go.Proofs.YtekjpbfmiebigaaDoor
open Go.RowKit

def sameB (a b : List Int) : Bool := hasL a b && decide (a.length = b.length)

def vwB (e l : Int) (st : List Int) (n : Int) : Bool := inB e 0 100 && (riseB st n && st.contains l)
theorem vwB_mem {e l : Int} {st : List Int} {n : Int} (h : vwB e l st n = true) : 0 ≤ l ∧ l < n := by
  simp only [vwB, Bool.and_eq_true] at h
  exact rise_mem h.2.1 (by simpa using h.2.2)

def ndA (l : List Nd) (i : Nat) : Nd := l.getD i ⟨0, 0, [], [], [], 0⟩
theorem ndA_some {l : List Nd} {k : Nat} {z : Nd} (h : l[k]? = some z) : ndA l k = z := by simp [ndA, List.getD_eq_getElem?_getD, h]

/-- What a node knows of the others. -/
def knOk (lead : Bool) (n x : Int) : Bool := decide (0 ≤ x) && (decide (x ≤ n) && (lead || decide (x = 0)))
def thinks (k : Nat) (x : Nd) : Bool := x.leader == (k : Int)
/-- One node, at place k, but for its view and its log. -/
def okNd (c : Cu) (k : Nat) (x : Nd) : Bool :=
  vwB x.epoch x.leader x.steps c.nodes.length && (decide (x.epoch ≤ c.tep) && ((!(x.epoch == c.tep) || (x.leader == c.tld)) && (rlogB x.log x.epoch && (decide (x.known.length = c.nodes.length) && (decide (0 ≤ x.told) && (decide (x.told ≤ (x.log.length : Int)) && (x.known.all (knOk (thinks k x) x.log.length) && (!c.tst.contains (k : Int) || decide (sameN c.acked x.log = c.acked.length)))))))))
def ndTo (c : Cu) (k : Nat) : Prop := ∀ i, i < k → okNd c i (ndA c.nodes i) = true
instance (c : Cu) (k : Nat) : Decidable (ndTo c k) := by unfold ndTo; infer_instance
theorem ndTo_succ {c : Cu} {k : Nat} {r : Nd} (h : ndTo c k) (hr : c.nodes[k]? = some r) (hk : okNd c k r = true) : ndTo c (k + 1) := fun i hi => by
  rcases Nat.lt_or_eq_of_le (Nat.le_of_lt_succ hi) with h1 | rfl
  · exact h i h1
  · rw [ndA_some hr]; exact hk
def headCu (c : Cu) : Bool := inB c.nodes.length 2 4 && (vwB c.tep c.tld c.tst c.nodes.length && rlogB c.acked 100)
def goodCu (c : Cu) : Bool := headCu c && decide (ndTo c c.nodes.length)
theorem goodCu_bad {c : Cu} {k : Nat} {r : Nd} (hr : c.nodes[k]? = some r) (h : okNd c k r = false) : goodCu c = false := by
  have hk := (List.getElem?_eq_some_iff.1 hr).1
  have : ¬ ndTo c c.nodes.length := fun g => by have := g k hk; rw [ndA_some hr, h] at this; cases this
  simp [goodCu, this]
theorem goodCu_head {c : Cu} (h : headCu c = false) : goodCu c = false := by simp [goodCu, h]
theorem goodCu_done {c : Cu} (h : headCu c = true) (h2 : ndTo c c.nodes.length) : goodCu c = true := by simp [goodCu, h, h2]

/-- Who is behind; who thinks that he leads. -/
def bhd (c : Cu) (x : Nd) : Bool := !((x.epoch == c.tep) && ((x.leader == c.tld) && sameB x.steps c.tst))
def bhdTo (c : Cu) : Nat → List Int
  | 0 => []
  | k + 1 => if bhd c (ndA c.nodes k) then bhdTo c k ++ [(k : Int)] else bhdTo c k
def thkTo (c : Cu) : Nat → List Int
  | 0 => []
  | k + 1 => if thinks k (ndA c.nodes k) then thkTo c k ++ [(k : Int)] else thkTo c k
def bhdL (c : Cu) : List Int := if goodCu c = true then bhdTo c c.nodes.length else []
def thkL (c : Cu) : List Int := if goodCu c = true then thkTo c c.nodes.length else []

end Go.Proofs.YtekjpbfmiebigaaDoor
