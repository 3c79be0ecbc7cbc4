/-
  How lists of structs that came in read. Made by mkbagopen.py.
-/
import Derived.Test.YthnkncmhbeeiaaaDoorOpenEp
import Derived.Test.YthnkncmhbeeiaaaDoorCll
namespace Go.Proofs.YthnkncmhbeeiaaaDoor
open Go.ChangeShapes Go.WideShapes Go.ChangeAt Go.RowKit

theorem Tryd.cellsBool : Tryd.prog.cellsOf 4 = 1 := by kernel_rfl

theorem Tryd.cellsInts : Tryd.prog.cellsOf 30 = 1 := by kernel_rfl

theorem Tryd.cellsLawCl : Tryd.prog.cellsOf 41 = 6 := by kernel_rfl

theorem Tryd.cellsLawCls : Tryd.prog.cellsOf 22 = 1 := by kernel_rfl

section
variable {H : Type} {enc : TypeId × Value → H} {w : World} {base : Nat} {spare : Nat → Bool} {held : Bool}

set_option maxRecDepth 100000 in
theorem oneCall_of {fuel : Nat} {cs : List Value} {x : DataW H × List MemPlace} (h : DataW.trod enc Tryd.prog w base spare held fuel 41 cs = some x) :
    ∃ (f : Cl), cs = [.int .i64 f.client, .int .i64 f.object, .bool f.write, .int .i64 f.value, .int .i64 f.beg, .int .i64 f.fin] := by
  obtain ⟨xs, n, -, -, hl, hlen, hf⟩ := DataW.trod_struct Tryd.underlying41 h
  rw [Tryd.cellsLawCl] at hl
  match cs, hl, xs, hlen with
  | [c0, c1, c2, c3, c4, c5], _, [y0, y1, y2, y3, y4, y5], _ =>
    have h0 := hf 0 _ rfl
    have h1 := hf 1 _ rfl
    have h2 := hf 2 _ rfl
    have h3 := hf 3 _ rfl
    have h4 := hf 4 _ rfl
    have h5 := hf 5 _ rfl
    simp [Tryd.cellsInt, Tryd.cellsBool] at h0 h1 h2 h3 h4 h5
    obtain ⟨s0, e0, -, -⟩ := DataW.trod_int Tryd.underlying3 h0
    obtain ⟨s1, e1, -, -⟩ := DataW.trod_int Tryd.underlying3 h1
    obtain ⟨s2, e2, -⟩ := DataW.trod_bool Tryd.underlying4 h2
    obtain ⟨s3, e3, -, -⟩ := DataW.trod_int Tryd.underlying3 h3
    obtain ⟨s4, e4, -, -⟩ := DataW.trod_int Tryd.underlying3 h4
    obtain ⟨s5, e5, -, -⟩ := DataW.trod_int Tryd.underlying3 h5
    simp at e0 e1 e2 e3 e4 e5
    subst e0 e1 e2 e3 e4 e5
    exact ⟨⟨s0, s1, s2, s3, s4, s5⟩, rfl⟩

set_option maxRecDepth 100000 in
theorem allCall_of {fuel : Nat} {cs : List Value} {x : DataW H × List MemPlace} (h : DataW.trod enc Tryd.prog w base spare held fuel 22 cs = some x) :
    ∃ a c, ∃ fs : List Cl, cs = [.slice a fs.length c] ∧ Cls w a fs ∧ fs.length ≤ maxLen := by
  rcases Deep.open_slice Tryd.underlying22 h with ⟨rfl, -⟩ | ⟨a, len, cap, m, n, D, Pl, rfl, -, hl, hm, hmm, -, hx⟩
  · exact ⟨none, 0, [], rfl, fun i s hi => by simp at hi, by simp⟩
  have hlm : len ≤ m := by rw [hmm]; split <;> omega
  have each : ∀ i, i < len → ∃ b : Cl, ∃ k o, a = ⟨k, o, none⟩ ∧ ClAt w k (o + i * 6) b := fun i hi => by
    obtain ⟨cs', h1, h2⟩ := hx i (by omega)
    rw [Tryd.cellsLawCl] at h1
    obtain ⟨f, rfl⟩ := oneCall_of h2
    obtain ⟨_, _, hcell⟩ := World.cells?_some h1
    obtain ⟨cs0, g1, g2⟩ := hx 0 (by omega)
    rw [Tryd.cellsLawCl] at g1
    obtain ⟨_, rfl⟩ := oneCall_of g2
    obtain ⟨_, _, gcell⟩ := World.cells?_some g1
    obtain ⟨k, off, spot⟩ := a
    have hspot : spot = none := by simpa [Addr.add] using World.cell?_spot (gcell 0 (by omega))
    subst hspot
    have at_ : ∀ j, (Addr.add ⟨k, off, none⟩ (i * 6)).add j = ⟨k, off + i * 6 + j, none⟩ := fun j => by rw [add_plain, add_plain]
    refine ⟨f, k, off, rfl, ?_, ?_, ?_, ?_, ?_, ?_⟩
    · simpa [at_] using hcell 0 (by omega)
    · simpa [at_] using hcell 1 (by omega)
    · simpa [at_] using hcell 2 (by omega)
    · simpa [at_] using hcell 3 (by omega)
    · simpa [at_] using hcell 4 (by omega)
    · simpa [at_] using hcell 5 (by omega)
  haveI : Inhabited Cl := ⟨⟨0, 0, false, 0, 0, 0⟩⟩
  obtain ⟨B, hB⟩ := Deep.choose_lt each
  refine ⟨some a, cap, (List.range len).map B, by simp, fun i b hi => ?_, by simp; omega⟩
  simp only [List.getElem?_map, Option.map_eq_some_iff] at hi
  obtain ⟨j, hj, rfl⟩ := hi
  obtain ⟨hlt, e⟩ := List.getElem?_eq_some_iff.1 hj
  simp at hlt e
  subst e
  obtain ⟨k, o, rfl, hb⟩ := hB i hlt
  exact ⟨k, o, rfl, hb⟩

end
end Go.Proofs.YthnkncmhbeeiaaaDoor
