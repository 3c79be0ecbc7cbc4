/-
  The walk of the law FnExactMarksOf: at every list of numbers that can be read it answers true and leaves what was there as it was.
-/
import Derived.Test.YtlhjnfmnkalcbaaLawHMO
namespace Go.Proofs.Ytlhjnfmnkalcbaa
open Go.RowKit

theorem moL_len (zs : List Int) : (moL zs).length ≤ 30 := by
  unfold moL
  split
  · rename_i h
    have := (goodE_t.1 h).1
    have := marksTo_len zs zs.length
    unfold marksL; omega
  · simp

theorem mo_ans {w w' : World} {ms : List Mk} {ok : Bool} {e : Ending} (h : MoAns w ms ok e w') : ∃ a' c', e = .returned (.tuple #[.slice a' ms.length c', .bool ok]) ∧ Mks w' a' ms ∧ RowM w' w.heap.size a' ms.length ∧ Below w.heap.size w w' := by
  obtain ⟨v, rfl, hst⟩ := h
  obtain ⟨a', c', rfl, h1, h2, h3⟩ := mkst_ans hst
  exact ⟨a', c', rfl, h1, h2, h3⟩

theorem lawMarks_any (zs : List Int) (a : Option Addr) (c : Nat) (w : World) (hs : Ints w a zs) (hl : zs.length ≤ maxLen) :
    Calls Try.prog 4 #[.slice a zs.length c] w fun r w' => r = .returned (.bool true) ∧ Below w.heap.size w w' :=
  lawMarksH zs (moL zs) (goodE zs) a c w hs hl (by have := moL_len zs; omega)
    (fun u x k h => (specMO_any x k zs u h hl).mono fun _ _ h => mo_ans h) (fun u x k h => (implMO_any x k zs u h hl).mono fun _ _ h => mo_ans h)

end Go.Proofs.Ytlhjnfmnkalcbaa
