/-
  How lists of structs that came in read. Made by mkbagopen.py.
-/
import Derived.Test.YtgiekkipkgdjaaaOpenEp
import Derived.Test.YtgiekkipkgdjaaaRdr
namespace Go.Proofs.Ytgiekkipkgdjaaa
open Go.ChangeShapes Go.WideShapes Go.ChangeAt Go.RowKit

theorem Try.cellsBool : Try.prog.cellsOf 4 = 1 := by kernel_rfl

theorem Try.cellsBools : Try.prog.cellsOf 49 = 1 := by kernel_rfl

theorem Try.cellsInts : Try.prog.cellsOf 22 = 1 := by kernel_rfl

theorem Try.cellsLawRx : Try.prog.cellsOf 90 = 4 := by kernel_rfl

theorem Try.cellsLawRxs : Try.prog.cellsOf 34 = 1 := by kernel_rfl

section
variable {H : Type} {enc : TypeId × Value → H} {w : World} {base : Nat} {spare : Nat → Bool} {held : Bool}

set_option maxRecDepth 100000 in
theorem bools_of {fuel : Nat} {cs : List Value} {x : DataW H × List MemPlace} (h : DataW.trod enc Try.prog w base spare held fuel 49 cs = some x) :
    ∃ a c, ∃ bs : List Bool, cs = [.slice a bs.length c] ∧ Bools w a bs ∧ bs.length ≤ maxLen := by
  rcases Deep.open_slice Try.underlying49 h with ⟨rfl, -⟩ | ⟨a, len, cap, m, n, D, Pl, rfl, -, hl, hm, hmm, -, hx⟩
  · exact ⟨none, 0, [], rfl, fun i s hi => by simp at hi, by simp⟩
  have hlm : len ≤ m := by rw [hmm]; split <;> omega
  have each : ∀ i, i < len → ∃ b : Bool, ∃ k o, a = ⟨k, o, none⟩ ∧ w.cell? ⟨k, o + i, none⟩ = some (.bool b) := fun i hi => by
    obtain ⟨cs', h1, h2⟩ := hx i (by omega)
    rw [Try.cellsBool] at h1
    obtain ⟨f, rfl, -⟩ := DataW.trod_bool Try.underlying4 h2
    obtain ⟨_, _, hcell⟩ := World.cells?_some h1
    obtain ⟨cs0, g1, g2⟩ := hx 0 (by omega)
    rw [Try.cellsBool] at g1
    obtain ⟨_, rfl, -⟩ := DataW.trod_bool Try.underlying4 g2
    obtain ⟨_, _, gcell⟩ := World.cells?_some g1
    obtain ⟨k, off, spot⟩ := a
    have hspot : spot = none := by simpa [Addr.add] using World.cell?_spot (gcell 0 (by omega))
    subst hspot
    have at_ : ∀ j, (Addr.add ⟨k, off, none⟩ i).add j = ⟨k, off + i + j, none⟩ := fun j => by rw [add_plain, add_plain]
    refine ⟨f, k, off, rfl, ?_⟩
    simpa [at_] using hcell 0 (by omega)
  obtain ⟨B, hB⟩ := Deep.choose_lt each
  refine ⟨some a, cap, (List.range len).map B, by simp, fun i b hi => ?_, by simp; omega⟩
  simp only [List.getElem?_map, Option.map_eq_some_iff] at hi
  obtain ⟨j, hj, rfl⟩ := hi
  obtain ⟨hlt, e⟩ := List.getElem?_eq_some_iff.1 hj
  simp at hlt e
  subst e
  obtain ⟨k, o, rfl, hb⟩ := hB i hlt
  exact ⟨k, o, rfl, hb⟩

set_option maxRecDepth 100000 in
theorem oneReader_of {fuel : Nat} {cs : List Value} {x : DataW H × List MemPlace} (h : DataW.trod enc Try.prog w base spare held fuel 90 cs = some x) :
    ∃ (f : Rx) (r2 : Option Addr) (k2 : Nat) (r3 : Option Addr) (k3 : Nat), cs = [.bool f.inn, .int .i64 f.gen, .slice r2 f.share.length k2, .slice r3 f.read.length k3] ∧ Ints w r2 f.share ∧ f.share.length ≤ maxLen ∧ Ints w r3 f.read ∧ f.read.length ≤ maxLen := by
  obtain ⟨xs, n, -, -, hl, hlen, hf⟩ := DataW.trod_struct Try.underlying90 h
  rw [Try.cellsLawRx] at hl
  match cs, hl, xs, hlen with
  | [c0, c1, c2, c3], _, [y0, y1, y2, y3], _ =>
    have h0 := hf 0 _ rfl
    have h1 := hf 1 _ rfl
    have h2 := hf 2 _ rfl
    have h3 := hf 3 _ rfl
    simp [Try.cellsInt, Try.cellsBool, Try.cellsInts] at h0 h1 h2 h3
    obtain ⟨s0, e0, -⟩ := DataW.trod_bool Try.underlying4 h0
    obtain ⟨s1, e1, -, -⟩ := DataW.trod_int Try.underlying3 h1
    obtain ⟨r2, k2, s2, e2, x2, m2⟩ := ints_of h2
    obtain ⟨r3, k3, s3, e3, x3, m3⟩ := ints_of h3
    simp at e0 e1 e2 e3
    subst e0 e1 e2 e3
    exact ⟨⟨s0, s1, s2, s3⟩, r2, k2, r3, k3, rfl, x2, m2, x3, m3⟩

set_option maxRecDepth 100000 in
theorem allReader_of {fuel : Nat} {cs : List Value} {x : DataW H × List MemPlace} (h : DataW.trod enc Try.prog w base spare held fuel 34 cs = some x) :
    ∃ a c, ∃ fs : List Rx, cs = [.slice a fs.length c] ∧ Rxs w a fs ∧ fs.length ≤ maxLen := by
  rcases Deep.open_slice Try.underlying34 h with ⟨rfl, -⟩ | ⟨a, len, cap, m, n, D, Pl, rfl, -, hl, hm, hmm, -, hx⟩
  · exact ⟨none, 0, [], rfl, fun i s hi => by simp at hi, by simp⟩
  have hlm : len ≤ m := by rw [hmm]; split <;> omega
  have each : ∀ i, i < len → ∃ b : Rx, ∃ k o, a = ⟨k, o, none⟩ ∧ RxAt w k (o + i * 4) b := fun i hi => by
    obtain ⟨cs', h1, h2⟩ := hx i (by omega)
    rw [Try.cellsLawRx] at h1
    obtain ⟨f, r2, k2, r3, k3, rfl, x2, m2, x3, m3⟩ := oneReader_of h2
    obtain ⟨_, _, hcell⟩ := World.cells?_some h1
    obtain ⟨cs0, g1, g2⟩ := hx 0 (by omega)
    rw [Try.cellsLawRx] at g1
    obtain ⟨_, _, _, _, _, rfl, -, -, -, -⟩ := oneReader_of g2
    obtain ⟨_, _, gcell⟩ := World.cells?_some g1
    obtain ⟨k, off, spot⟩ := a
    have hspot : spot = none := by simpa [Addr.add] using World.cell?_spot (gcell 0 (by omega))
    subst hspot
    have at_ : ∀ j, (Addr.add ⟨k, off, none⟩ (i * 4)).add j = ⟨k, off + i * 4 + j, none⟩ := fun j => by rw [add_plain, add_plain]
    refine ⟨f, k, off, rfl, r2, k2, r3, k3, ?_, ?_, ?_, ?_, x2, m2, x3, m3⟩
    · simpa [at_] using hcell 0 (by omega)
    · simpa [at_] using hcell 1 (by omega)
    · simpa [at_] using hcell 2 (by omega)
    · simpa [at_] using hcell 3 (by omega)
  haveI : Inhabited Rx := ⟨⟨false, 0, [], []⟩⟩
  obtain ⟨B, hB⟩ := Deep.choose_lt each
  refine ⟨some a, cap, (List.range len).map B, by simp, fun i b hi => ?_, by simp; omega⟩
  simp only [List.getElem?_map, Option.map_eq_some_iff] at hi
  obtain ⟨j, hj, rfl⟩ := hi
  obtain ⟨hlt, e⟩ := List.getElem?_eq_some_iff.1 hj
  simp at hlt e
  subst e
  obtain ⟨k, o, rfl, hb⟩ := hB i hlt
  exact ⟨k, o, rfl, hb⟩

end
end Go.Proofs.Ytgiekkipkgdjaaa
