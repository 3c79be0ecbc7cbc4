/-
  How votes that came in read.
-/
import Derived.Test.YtifahambpgnedaaOpenEp
import Derived.Test.YtifahambpgnedaaVot
namespace Go.Proofs.Ytifahambpgnedaa
open Go.ChangeShapes Go.WideShapes Go.ChangeAt Go.RowKit

theorem Try.cellsLawVotes : Try.prog.cellsOf 24 = 2 := by kernel_rfl

theorem Try.cellsInts : Try.prog.cellsOf 22 = 1 := by kernel_rfl

section
variable {H : Type} {enc : TypeId × Value → H} {w : World} {base : Nat} {spare : Nat → Bool} {held : Bool}

set_option maxRecDepth 100000 in
theorem votes_of {fuel : Nat} {cs : List Value} {x : DataW H × List MemPlace} (h : DataW.trod enc Try.prog w base spare held fuel 24 cs = some x) :
    ∃ a c, ∃ zs : List Int, ∃ need : Int, cs = [.slice a zs.length c, .int .i64 need] ∧ Ints w a zs ∧ zs.length ≤ maxLen := by
  obtain ⟨xs, n, -, -, hl, hlen, hf⟩ := DataW.trod_struct Try.underlying24 h
  rw [Try.cellsLawVotes] at hl
  match cs, hl, xs, hlen with
  | [c0, c1], _, [y0, y1], _ =>
    have h0 := hf 0 _ rfl
    have h1 := hf 1 _ rfl
    simp [Try.cellsInt, Try.cellsInts] at h0 h1
    obtain ⟨a, c, zs, e0, hs, hm⟩ := ints_of h0
    obtain ⟨e, e1, -, -⟩ := DataW.trod_int Try.underlying3 h1
    simp at e0 e1
    subst e0 e1
    exact ⟨a, c, zs, e, rfl, hs, hm⟩

end
end Go.Proofs.Ytifahambpgnedaa
