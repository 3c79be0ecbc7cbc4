/-
  Least quorums, the program's side: the contracts of the function literal of impl.LeastQuorums, and of impl.LeastQuorums.
-/
import Derived.Test.YtdibddkhjefmlaaDoorQLstLQ
namespace Go.Proofs.YtdibddkhjefmlaaDoor
open Go.RowKit

def lqEn (zs : List Int) (need : Int) (x : Nat) : Bool := decide (need ≤ sumW zs (mi x))
def lqL (zs : List Int) (need : Int) : List (List Int) := if goodV zs need then lstTo (lqEn zs need) (2 ^ zs.length) else []

theorem mem_small {n many m : Nat} (h : n < 2 ^ many) (hm : m ∈ mem7 n) : m < many := by
  apply Classical.byContradiction
  intro hn
  have := Nat.testBit_lt_two_pow (Nat.lt_of_lt_of_le h (Nat.pow_le_pow_right (n := 2) (by omega) (by omega : many ≤ m)))
  rw [(mem7_iff.1 hm).2] at this
  cases this

end Go.Proofs.YtdibddkhjefmlaaDoor
