/-
  The walk of the law FnExactCutMarks: at every list of marks that can be read and every number it answers true and leaves what was there as it was.
-/
import Derived.Test.YtlhjnfmnkalcbaaLawHCM
import Derived.Test.YtlhjnfmnkalcbaaLawMO
import Derived.Test.YtlhjnfmnkalcbaaMkCut
namespace Go.Proofs.Ytlhjnfmnkalcbaa
open Go.RowKit

theorem cmL_len (m : List Mk) (at_ : Int) : (cmL m at_).length ≤ 30 := by
  unfold cmL
  split
  · rename_i h
    simp only [Bool.and_eq_true] at h
    have := (goodM_t.1 h.1).1
    have := cutTo_len m at_ m.length
    omega
  · simp

theorem lawCut_any (m : List Mk) (at_ : Int) (a : Option Addr) (c : Nat) (w : World) (hs : Mks w a m) (hl : m.length ≤ maxLen) :
    Calls Try.prog 9 #[.slice a m.length c, .int .i64 at_] w fun r w' => r = .returned (.bool true) ∧ Below w.heap.size w w' :=
  lawCutH m at_ (cmL m at_) (cmOk m at_) a c w hs hl (by have := cmL_len m at_; omega)
    (fun u x k h => (specCM_any x k m at_ u h hl).mono fun _ _ h => mo_ans h) (fun u x k h => (implCM_any x k m at_ u h hl).mono fun _ _ h => mo_ans h)

end Go.Proofs.Ytlhjnfmnkalcbaa
