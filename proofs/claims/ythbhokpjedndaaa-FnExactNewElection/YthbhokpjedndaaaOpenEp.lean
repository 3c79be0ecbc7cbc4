/-
  How lists of numbers and lists of epoch marks that came in read.
-/
import Derived.Test.YthbhokpjedndaaaOpen
import Derived.Test.YthbhokpjedndaaaInts
import Derived.ChangeSlices
namespace Go.Proofs.Ythbhokpjedndaaa
open Go.ChangeShapes Go.WideShapes Go.ChangeAt Go.RowKit

section
variable {H : Type} {enc : TypeId × Value → H} {w : World} {base : Nat} {spare : Nat → Bool} {held : Bool}

set_option maxRecDepth 100000 in
theorem ints_of {fuel : Nat} {cs : List Value} {x : DataW H × List MemPlace} (h : DataW.trod enc Try.prog w base spare held fuel 55 cs = some x) :
    ∃ a c, ∃ zs : List Int, cs = [.slice a zs.length c] ∧ Ints w a zs ∧ zs.length ≤ maxLen := by
  rcases open_ints Try.underlying55 Try.underlying3 Try.cellsInt h with ⟨rfl, -⟩ | ⟨a, len, cap, zs, rfl, -, hl, hm, hlen, -, hx, -⟩
  · exact ⟨none, 0, [], rfl, fun i z hi => by simp at hi, by simp⟩
  · have hlm : len ≤ zs.length := by rw [hlen]; split <;> omega
    have hz : (zs.take len).length = len := by simp; omega
    refine ⟨some a, cap, zs.take len, by rw [hz], fun i z hi => ?_, by rw [hz]; omega⟩
    have hlt := (List.getElem?_eq_some_iff.1 hi).1
    rw [hz] at hlt
    rw [List.getElem?_take_of_lt hlt] at hi
    obtain ⟨b, off, spot⟩ := a
    have hspot : spot = none := by simpa [Addr.add] using World.cell?_spot (hx 0 (by omega))
    subst hspot
    refine ⟨b, off, rfl, ?_⟩
    rw [← add_plain]
    have := hx i (by omega)
    rw [List.getD_eq_getElem?_getD, hi] at this
    exact this

end
end Go.Proofs.Ythbhokpjedndaaa
