/-
  How a batch that came in reads: its four numbers and its records, by the cells.
-/
import Derived.Test.YteefmbaehmcibaaDoorStrs
import Derived.ProofKit
import Derived.Deep.Strs
import Derived.OpenShut
namespace Go.Proofs.YteefmbaehmcibaaDoor
open Go.ChangeShapes Go.WideShapes Go.ChangeAt Go.RowKit

theorem Tryd.own : ownKnob Tryd.prog.godebug = none := by kernel_rfl

theorem Tryd.laidOut : laidOutB Tryd.prog = true := by kernel_rfl

theorem Tryd.cellsString : Tryd.prog.cellsOf 9 = 1 := by kernel_rfl

theorem Tryd.cellsInt : Tryd.prog.cellsOf 3 = 1 := by kernel_rfl

theorem Tryd.cellsStrings : Tryd.prog.cellsOf 22 = 1 := by kernel_rfl

theorem Tryd.cellsLawBatch : Tryd.prog.cellsOf 24 = 5 := by kernel_rfl

section
variable {H : Type} {enc : TypeId × Value → H} {w : World} {base : Nat} {spare : Nat → Bool} {held : Bool}

theorem strs_of {fuel : Nat} {cs : List Value} {x : DataW H × List MemPlace} (h : DataW.trod enc Tryd.prog w base spare held fuel 22 cs = some x) :
    ∃ a c, ∃ ss : List ByteArray, cs = [.slice a ss.length c] ∧ Strs w a ss ∧ ss.length ≤ maxLen := by
  rcases Deep.open_strs Tryd.underlying22 Tryd.underlying9 Tryd.cellsString h with ⟨rfl, -⟩ | ⟨a, len, cap, m, Sx, rfl, -, hl, hm, hmm, -, hx⟩
  · exact ⟨none, 0, [], rfl, fun i s hi => by simp at hi, by simp⟩
  · refine ⟨some a, cap, (List.range len).map Sx, by simp, fun i s hi => ?_, by simp; omega⟩
    simp only [List.getElem?_map, Option.map_eq_some_iff] at hi
    obtain ⟨j, hj, rfl⟩ := hi
    obtain ⟨hlt, e⟩ := List.getElem?_eq_some_iff.1 hj
    simp at hlt e
    subst e
    have hlm : len ≤ m := by rw [hmm]; split <;> omega
    obtain ⟨b, off, spot⟩ := a
    have hspot : spot = none := by simpa [Addr.add] using World.cell?_spot (hx 0 (by omega)).1
    subst hspot
    exact ⟨b, off, rfl, by rw [← add_plain]; exact (hx i (by omega)).1, (hx i (by omega)).2⟩

set_option maxRecDepth 100000 in
theorem batch_of {fuel : Nat} {cs : List Value} {x : DataW H × List MemPlace} (h : DataW.trod enc Tryd.prog w base spare held fuel 24 cs = some x) :
    ∃ o e p q a c, ∃ ss : List ByteArray, cs = [.int .i64 o, .int .i64 e, .int .i64 p, .int .i64 q, .slice a ss.length c] ∧ Strs w a ss ∧ ss.length ≤ maxLen := by
  obtain ⟨xs, n, -, -, hl, hlen, hf⟩ := DataW.trod_struct Tryd.underlying24 h
  rw [Tryd.cellsLawBatch] at hl
  match cs, hl, xs, hlen with
  | [c0, c1, c2, c3, c4], _, [y0, y1, y2, y3, y4], _ =>
    have h0 := hf 0 _ rfl
    have h1 := hf 1 _ rfl
    have h2 := hf 2 _ rfl
    have h3 := hf 3 _ rfl
    have h4 := hf 4 _ rfl
    simp [Tryd.cellsInt, Tryd.cellsStrings] at h0 h1 h2 h3 h4
    obtain ⟨o, e0, -, -⟩ := DataW.trod_int Tryd.underlying3 h0
    obtain ⟨e, e1, -, -⟩ := DataW.trod_int Tryd.underlying3 h1
    obtain ⟨p, e2, -, -⟩ := DataW.trod_int Tryd.underlying3 h2
    obtain ⟨q, e3, -, -⟩ := DataW.trod_int Tryd.underlying3 h3
    obtain ⟨a, c, ss, e4, hs, hm⟩ := strs_of h4
    simp at e0 e1 e2 e3 e4
    subst e0 e1 e2 e3 e4
    exact ⟨o, e, p, q, a, c, ss, rfl, hs, hm⟩

end
end Go.Proofs.YteefmbaehmcibaaDoor
