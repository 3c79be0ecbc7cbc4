/-
  How a disk that came in reads.
-/
import Derived.Test.YtopndglgbollfaaDoorOpen
import Derived.Test.YtopndglgbollfaaDoorDsk
namespace Go.Proofs.YtopndglgbollfaaDoor
open Go.ChangeShapes Go.WideShapes Go.ChangeAt Go.RowKit

theorem Tryd.cellsLawFile : Tryd.prog.cellsOf 64 = 2 := by kernel_rfl

theorem Tryd.cellsLawFiles : Tryd.prog.cellsOf 22 = 1 := by kernel_rfl

theorem Tryd.cellsLawDisk : Tryd.prog.cellsOf 24 = 1 := by kernel_rfl

section
variable {H : Type} {enc : TypeId × Value → H} {w : World} {base : Nat} {spare : Nat → Bool} {held : Bool}

set_option maxRecDepth 100000 in
theorem file_of {fuel : Nat} {cs : List Value} {x : DataW H × List MemPlace} (h : DataW.trod enc Tryd.prog w base spare held fuel 64 cs = some x) :
    ∃ f : Fl, cs = [.string f.bytes, .int .i64 f.syn] ∧ f.bytes.size ≤ maxLen := by
  obtain ⟨xs, n, -, -, hl, hlen, hf⟩ := DataW.trod_struct Tryd.underlying64 h
  rw [Tryd.cellsLawFile] at hl
  match cs, hl, xs, hlen with
  | [c0, c1], _, [y0, y1], _ =>
    have h0 := hf 0 _ rfl
    have h1 := hf 1 _ rfl
    simp [Tryd.cellsInt, Tryd.cellsString] at h0 h1
    obtain ⟨s, e0, -, hz⟩ := DataW.trod_string Tryd.underlying9 h0
    obtain ⟨e, e1, -, -⟩ := DataW.trod_int Tryd.underlying3 h1
    simp at e0 e1
    subst e0 e1
    exact ⟨⟨s, e⟩, rfl, hz⟩

set_option maxRecDepth 100000 in
theorem files_of {fuel : Nat} {cs : List Value} {x : DataW H × List MemPlace} (h : DataW.trod enc Tryd.prog w base spare held fuel 22 cs = some x) :
    ∃ a c, ∃ fs : List Fl, cs = [.slice a fs.length c] ∧ Fls w a fs ∧ fs.length ≤ maxLen := by
  rcases Deep.open_slice Tryd.underlying22 h with ⟨rfl, -⟩ | ⟨a, len, cap, m, n, D, Pl, rfl, -, hl, hm, hmm, -, hx⟩
  · exact ⟨none, 0, [], rfl, fun i s hi => by simp at hi, by simp⟩
  have hlm : len ≤ m := by rw [hmm]; split <;> omega
  have each : ∀ i, i < len → ∃ b : Fl, ∃ k o, a = ⟨k, o, none⟩ ∧ FlAt w k (o + i * 2) b := fun i hi => by
    obtain ⟨cs', h1, h2⟩ := hx i (by omega)
    rw [Tryd.cellsLawFile] at h1
    obtain ⟨f, rfl, hz⟩ := file_of h2
    obtain ⟨_, _, hcell⟩ := World.cells?_some h1
    obtain ⟨cs0, g1, g2⟩ := hx 0 (by omega)
    rw [Tryd.cellsLawFile] at g1
    obtain ⟨_, rfl, _⟩ := file_of g2
    obtain ⟨_, _, gcell⟩ := World.cells?_some g1
    obtain ⟨k, off, spot⟩ := a
    have hspot : spot = none := by simpa [Addr.add] using World.cell?_spot (gcell 0 (by omega))
    subst hspot
    have at_ : ∀ j, (Addr.add ⟨k, off, none⟩ (i * 2)).add j = ⟨k, off + i * 2 + j, none⟩ := fun j => by rw [add_plain, add_plain]
    refine ⟨f, k, off, rfl, ?_, ?_, hz⟩
    · simpa [at_] using hcell 0 (by omega)
    · simpa [at_] using hcell 1 (by omega)
  haveI : Inhabited Fl := ⟨⟨ByteArray.empty, 0⟩⟩
  obtain ⟨B, hB⟩ := Deep.choose_lt each
  refine ⟨some a, cap, (List.range len).map B, by simp, fun i b hi => ?_, by simp; omega⟩
  simp only [List.getElem?_map, Option.map_eq_some_iff] at hi
  obtain ⟨j, hj, rfl⟩ := hi
  obtain ⟨hlt, e⟩ := List.getElem?_eq_some_iff.1 hj
  simp at hlt e
  subst e
  obtain ⟨k, o, rfl, hb⟩ := hB i hlt
  exact ⟨k, o, rfl, hb⟩

set_option maxRecDepth 100000 in
theorem disk_of {fuel : Nat} {cs : List Value} {x : DataW H × List MemPlace} (h : DataW.trod enc Tryd.prog w base spare held fuel 24 cs = some x) :
    ∃ a c, ∃ fs : List Fl, cs = [.slice a fs.length c] ∧ Fls w a fs ∧ fs.length ≤ maxLen := by
  obtain ⟨xs, n, -, -, hl, hlen, hf⟩ := DataW.trod_struct Tryd.underlying24 h
  rw [Tryd.cellsLawDisk] at hl
  match cs, hl, xs, hlen with
  | [c0], _, [y0], _ =>
    have h0 := hf 0 _ rfl
    simp [Tryd.cellsLawFiles] at h0
    exact files_of h0

end
end Go.Proofs.YtopndglgbollfaaDoor
