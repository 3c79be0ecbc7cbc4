/-
  Clusters, the program's side: who thinks that he leads. Made by mkcui3.py.
-/
import Derived.Test.YtekjpbfmiebigaaDoorCuI3
import Derived.Test.YtekjpbfmiebigaaDoorCuS4
namespace Go.Proofs.YtekjpbfmiebigaaDoor
open Go.RowKit

theorem implGoodCu_any (s : Cu) (hr : CuN s) (a0 a1 a2 : Option Addr) (c0 c1 c2 : Nat) (w : World) (hs : CuR w s a0 a1 a2) (hb : CuB s) :
    Calls Tryd.prog 59 #[cuV s a0 c0 a1 c1 a2 c2] w fun e w' => e = .returned (.bool (goodCu s)) ∧ Below w.heap.size w w' :=
  implGoodCu_c s a0 a1 a2 c0 c1 c2 _ w hs hb.len hr rfl

theorem thkL_len (s : Cu) : (thkL s).length ≤ 1000000 := by
  unfold thkL
  split
  · rename_i h
    have h1 := thkTo_len s s.nodes.length
    have h2 := goodCu_len h
    omega
  · simp

end Go.Proofs.YtekjpbfmiebigaaDoor
