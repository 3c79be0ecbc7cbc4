/-
  Clusters, the specification's side: ThinkLead. Made by mkcus3.py.
-/
import Derived.Test.YtekjpbfmiebigaaDoorCuS3
import Derived.Test.YtekjpbfmiebigaaDoorZan
import Derived.Test.YtekjpbfmiebigaaDoorAppZ
import Derived.Deep.AppendLies
namespace Go.Proofs.YtekjpbfmiebigaaDoor
open Go.RowKit

theorem goodCu_len {s : Cu} (h : goodCu s = true) : s.nodes.length ≤ 4 := by
  simp only [goodCu, headCu, Bool.and_eq_true] at h
  have := inB_t.1 h.1.1
  omega
theorem thkTo_len (s : Cu) : ∀ k, (thkTo s k).length ≤ k
  | 0 => by simp [thkTo]
  | k + 1 => by
    have := thkTo_len s k
    rw [thkTo]
    split
    · simp; omega
    · omega
theorem thkTo_t {s : Cu} {k : Nat} {x : Nd} (hk : s.nodes[k]? = some x) (h : thinks k x = true) : thkTo s (k + 1) = thkTo s k ++ [(k : Int)] := by rw [thkTo, ndA_some hk, if_pos h]
theorem thkTo_f {s : Cu} {k : Nat} {x : Nd} (hk : s.nodes[k]? = some x) (h : thinks k x = false) : thkTo s (k + 1) = thkTo s k := by rw [thkTo, ndA_some hk, if_neg (by rw [h]; simp)]

end Go.Proofs.YtekjpbfmiebigaaDoor
