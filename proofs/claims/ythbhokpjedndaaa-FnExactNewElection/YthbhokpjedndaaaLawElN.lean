/-
  The walk of the law FnExactNewElection: at every list of lists of numbers that can be read it answers true and leaves what was there as it was.
-/
import Derived.Test.YthbhokpjedndaaaLawHElN
import Derived.Test.YthbhokpjedndaaaElNS
import Derived.Test.YthbhokpjedndaaaElNI
namespace Go.Proofs.Ythbhokpjedndaaa
open Go.RowKit

theorem lawElN_any (L : List (List Int)) (a : Option Addr) (c : Nat) (w : World) (hs : Intss w a L) (hm : L.length ≤ maxLen) :
    Calls Try.prog 4 #[.slice a L.length c] w fun r w' => r = .returned (.bool true) ∧ Below w.heap.size w w' := by
  by_cases hl : L.length ≤ 1048576
  · exact lawElNH L (newEl L) (okNE L) a c w hs hm (newEl_small L).1 (newEl_small L).2 (fun u b d h => specNewEl_any L b d u h hl) (fun u b d h => implNewEl_any L b d u h hl)
  · exact lawElN_big L a c w hs hm (by omega)

end Go.Proofs.Ythbhokpjedndaaa
