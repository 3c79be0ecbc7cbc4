/-
  How lists of lists of numbers that came in read.
-/
import Derived.Test.YthbhokpjedndaaaOpenV
import Derived.Test.YthbhokpjedndaaaIss
namespace Go.Proofs.Ythbhokpjedndaaa
open Go.ChangeShapes Go.WideShapes Go.ChangeAt Go.RowKit

section
variable {H : Type} {enc : TypeId × Value → H} {w : World} {base : Nat} {spare : Nat → Bool} {held : Bool}

set_option maxRecDepth 100000 in
theorem intss_of {fuel : Nat} {cs : List Value} {x : DataW H × List MemPlace} (h : DataW.trod enc Try.prog w base spare held fuel 30 cs = some x) :
    ∃ a c, ∃ L : List (List Int), cs = [.slice a L.length c] ∧ Intss w a L ∧ L.length ≤ maxLen := by
  rcases Deep.open_slice Try.underlying30 h with ⟨rfl, -⟩ | ⟨a, len, cap, m, n, D, Pl, rfl, -, hl, hm, hmm, -, hx⟩
  · exact ⟨none, 0, [], rfl, fun i s hi => by simp at hi, by simp⟩
  have hlm : len ≤ m := by rw [hmm]; split <;> omega
  have each : ∀ i, i < len → ∃ zs : List Int, ∃ k o ai ci, a = ⟨k, o, none⟩ ∧ w.cell? ⟨k, o + i, none⟩ = some (.slice ai zs.length ci) ∧ Ints w ai zs ∧ zs.length ≤ maxLen := fun i hi => by
    obtain ⟨cs', h1, h2⟩ := hx i (by omega)
    rw [Try.cellsInts] at h1
    obtain ⟨ai, ci, zs, rfl, hz, hzm⟩ := ints_of h2
    obtain ⟨_, _, hcell⟩ := World.cells?_some h1
    have h0 := hcell 0 (by omega)
    obtain ⟨cs0, g1, g2⟩ := hx 0 (by omega)
    rw [Try.cellsInts] at g1
    obtain ⟨_, _, _, rfl, _⟩ := ints_of g2
    obtain ⟨_, _, gcell⟩ := World.cells?_some g1
    obtain ⟨k, off, spot⟩ := a
    have hspot : spot = none := by simpa [Addr.add] using World.cell?_spot (gcell 0 (by omega))
    subst hspot
    have at_ : (Addr.add ⟨k, off, none⟩ (i * 1)).add 0 = ⟨k, off + i, none⟩ := by rw [add_plain, add_plain, Nat.mul_one, Nat.add_zero]
    rw [at_] at h0
    exact ⟨zs, k, off, ai, ci, rfl, by simpa using h0, hz, hzm⟩
  haveI : Inhabited (List Int) := ⟨[]⟩
  obtain ⟨B, hB⟩ := Deep.choose_lt each
  refine ⟨some a, cap, (List.range len).map B, by simp, fun i b hi => ?_, by simp; omega⟩
  simp only [List.getElem?_map, Option.map_eq_some_iff] at hi
  obtain ⟨j, hj, rfl⟩ := hi
  obtain ⟨hlt, e⟩ := List.getElem?_eq_some_iff.1 hj
  simp at hlt e
  subst e
  obtain ⟨k, o, ai, ci, rfl, h1, h2, h3⟩ := hB i hlt
  exact ⟨k, o, ai, ci, rfl, h1, h2, h3⟩

end
end Go.Proofs.Ythbhokpjedndaaa
