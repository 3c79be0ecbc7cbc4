/-
  How a list of batches that came in reads.
-/
import Derived.Test.YteefmbaehmcibaaDoorOpen
import Derived.Test.YteefmbaehmcibaaDoorLogs
namespace Go.Proofs.YteefmbaehmcibaaDoor
open Go.ChangeShapes Go.WideShapes Go.ChangeAt Go.RowKit

theorem bats_of {H : Type} {enc : TypeId × Value → H} {w : World} {base : Nat} {spare : Nat → Bool} {held : Bool} {fuel : Nat} {cs : List Value} {x : DataW H × List MemPlace} (h : DataW.trod enc Tryd.prog w base spare held fuel 32 cs = some x) :
    ∃ a c, ∃ bs : List Bt, cs = [.slice a bs.length c] ∧ Bats w a bs ∧ bs.length ≤ maxLen := by
  rcases Deep.open_slice Tryd.underlying32 h with ⟨rfl, -⟩ | ⟨a, len, cap, m, n, D, Pl, rfl, -, hl, hm, hmm, -, hx⟩
  · exact ⟨none, 0, [], rfl, fun i s hi => by simp at hi, by simp⟩
  have hlm : len ≤ m := by rw [hmm]; split <;> omega
  have each : ∀ i, i < len → ∃ b : Bt, ∃ k o, a = ⟨k, o, none⟩ ∧ BatAt w k (o + i * 5) b := fun i hi => by
    obtain ⟨cs', h1, h2⟩ := hx i (by omega)
    rw [Tryd.cellsLawBatch] at h1
    obtain ⟨o, e, p, q, ra, rc, ss, rfl, hs, hsl⟩ := batch_of h2
    obtain ⟨_, _, hcell⟩ := World.cells?_some h1
    obtain ⟨cs0, g1, g2⟩ := hx 0 (by omega)
    rw [Tryd.cellsLawBatch] at g1
    obtain ⟨_, _, _, _, _, _, _, rfl, _, _⟩ := batch_of g2
    obtain ⟨_, _, gcell⟩ := World.cells?_some g1
    obtain ⟨k, off, spot⟩ := a
    have hspot : spot = none := by simpa [Addr.add] using World.cell?_spot (gcell 0 (by omega))
    subst hspot
    have at_ : ∀ j, (Addr.add ⟨k, off, none⟩ (i * 5)).add j = ⟨k, off + i * 5 + j, none⟩ := fun j => by rw [add_plain, add_plain]
    refine ⟨⟨o, e, p, q, ss⟩, k, off, rfl, ra, rc, ?_, ?_, ?_, ?_, ?_, hs, hsl⟩
    · simpa [at_] using hcell 0 (by omega)
    · simpa [at_] using hcell 1 (by omega)
    · simpa [at_] using hcell 2 (by omega)
    · simpa [at_] using hcell 3 (by omega)
    · simpa [at_] using hcell 4 (by omega)
  haveI : Inhabited Bt := ⟨⟨0, 0, 0, 0, []⟩⟩
  obtain ⟨B, hB⟩ := Deep.choose_lt each
  refine ⟨some a, cap, (List.range len).map B, by simp, fun i b hi => ?_, by simp; omega⟩
  simp only [List.getElem?_map, Option.map_eq_some_iff] at hi
  obtain ⟨j, hj, rfl⟩ := hi
  obtain ⟨hlt, e⟩ := List.getElem?_eq_some_iff.1 hj
  simp at hlt e
  subst e
  obtain ⟨k, o, rfl, hb⟩ := hB i hlt
  exact ⟨k, o, rfl, hb⟩

end Go.Proofs.YteefmbaehmcibaaDoor
