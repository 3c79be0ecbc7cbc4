/-
  How votes that came in read.
-/
import Derived.Test.YtifahambpgnedaaDoorOpenEp
import Derived.Test.YtifahambpgnedaaDoorVot
namespace Go.Proofs.YtifahambpgnedaaDoor
open Go.ChangeShapes Go.WideShapes Go.ChangeAt Go.RowKit

theorem Tryd.cellsLawVotes : Tryd.prog.cellsOf 24 = 2 := by kernel_rfl

theorem Tryd.cellsInts : Tryd.prog.cellsOf 22 = 1 := by kernel_rfl

section
variable {H : Type} {enc : TypeId × Value → H} {w : World} {base : Nat} {spare : Nat → Bool} {held : Bool}

set_option maxRecDepth 100000 in
theorem votes_of {fuel : Nat} {cs : List Value} {x : DataW H × List MemPlace} (h : DataW.trod enc Tryd.prog w base spare held fuel 24 cs = some x) :
    ∃ a c, ∃ zs : List Int, ∃ need : Int, cs = [.slice a zs.length c, .int .i64 need] ∧ Ints w a zs ∧ zs.length ≤ maxLen := by
  obtain ⟨xs, n, -, -, hl, hlen, hf⟩ := DataW.trod_struct Tryd.underlying24 h
  rw [Tryd.cellsLawVotes] at hl
  match cs, hl, xs, hlen with
  | [c0, c1], _, [y0, y1], _ =>
    have h0 := hf 0 _ rfl
    have h1 := hf 1 _ rfl
    simp [Tryd.cellsInt, Tryd.cellsInts] at h0 h1
    obtain ⟨a, c, zs, e0, hs, hm⟩ := ints_of h0
    obtain ⟨e, e1, -, -⟩ := DataW.trod_int Tryd.underlying3 h1
    simp at e0 e1
    subst e0 e1
    exact ⟨a, c, zs, e, rfl, hs, hm⟩

end
end Go.Proofs.YtifahambpgnedaaDoor
