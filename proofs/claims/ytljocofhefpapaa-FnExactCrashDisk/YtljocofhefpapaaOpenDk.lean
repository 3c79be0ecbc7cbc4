/-
  How a disk that came in reads.
-/
import Derived.Test.YtljocofhefpapaaOpen
import Derived.Test.YtljocofhefpapaaDsk
namespace Go.Proofs.Ytljocofhefpapaa
open Go.ChangeShapes Go.WideShapes Go.ChangeAt Go.RowKit

theorem Try.cellsLawFile : Try.prog.cellsOf 68 = 2 := by kernel_rfl

theorem Try.cellsLawFiles : Try.prog.cellsOf 30 = 1 := by kernel_rfl

theorem Try.cellsLawDisk : Try.prog.cellsOf 32 = 1 := by kernel_rfl

section
variable {H : Type} {enc : TypeId × Value → H} {w : World} {base : Nat} {spare : Nat → Bool} {held : Bool}

theorem file_of {fuel : Nat} {cs : List Value} {x : DataW H × List MemPlace} (h : DataW.trod enc Try.prog w base spare held fuel 68 cs = some x) :
    ∃ f : Fl, cs = [.string f.bytes, .int .i64 f.syn] ∧ f.bytes.size ≤ maxLen := by
  obtain ⟨xs, n, -, -, hl, hlen, hf⟩ := DataW.trod_struct Try.underlying68 h
  rw [Try.cellsLawFile] at hl
  match cs, hl, xs, hlen with
  | [c0, c1], _, [y0, y1], _ =>
    have h0 := hf 0 _ rfl
    have h1 := hf 1 _ rfl
    simp [Try.cellsInt, Try.cellsString] at h0 h1
    obtain ⟨s, e0, -, hz⟩ := DataW.trod_string Try.underlying9 h0
    obtain ⟨e, e1, -, -⟩ := DataW.trod_int Try.underlying3 h1
    simp at e0 e1
    subst e0 e1
    exact ⟨⟨s, e⟩, rfl, hz⟩

theorem files_of {fuel : Nat} {cs : List Value} {x : DataW H × List MemPlace} (h : DataW.trod enc Try.prog w base spare held fuel 30 cs = some x) :
    ∃ a c, ∃ fs : List Fl, cs = [.slice a fs.length c] ∧ Fls w a fs ∧ fs.length ≤ maxLen := by
  rcases Deep.open_slice Try.underlying30 h with ⟨rfl, -⟩ | ⟨a, len, cap, m, n, D, Pl, rfl, -, hl, hm, hmm, -, hx⟩
  · exact ⟨none, 0, [], rfl, fun i s hi => by simp at hi, by simp⟩
  have hlm : len ≤ m := by rw [hmm]; split <;> omega
  have each : ∀ i, i < len → ∃ b : Fl, ∃ k o, a = ⟨k, o, none⟩ ∧ FlAt w k (o + i * 2) b := fun i hi => by
    obtain ⟨cs', h1, h2⟩ := hx i (by omega)
    rw [Try.cellsLawFile] at h1
    obtain ⟨f, rfl, hz⟩ := file_of h2
    obtain ⟨_, _, hcell⟩ := World.cells?_some h1
    obtain ⟨cs0, g1, g2⟩ := hx 0 (by omega)
    rw [Try.cellsLawFile] at g1
    obtain ⟨_, rfl, _⟩ := file_of g2
    obtain ⟨_, _, gcell⟩ := World.cells?_some g1
    obtain ⟨k, off, spot⟩ := a
    have hspot : spot = none := by simpa [Addr.add] using World.cell?_spot (gcell 0 (by omega))
    subst hspot
    have at_ : ∀ j, (Addr.add ⟨k, off, none⟩ (i * 2)).add j = ⟨k, off + i * 2 + j, none⟩ := fun j => by rw [add_plain, add_plain]
    refine ⟨f, k, off, rfl, ?_, ?_, hz⟩
    · simpa [at_] using hcell 0 (by omega)
    · simpa [at_] using hcell 1 (by omega)
  haveI : Inhabited Fl := ⟨⟨ByteArray.empty, 0⟩⟩
  obtain ⟨B, hB⟩ := Deep.choose_lt each
  refine ⟨some a, cap, (List.range len).map B, by simp, fun i b hi => ?_, by simp; omega⟩
  simp only [List.getElem?_map, Option.map_eq_some_iff] at hi
  obtain ⟨j, hj, rfl⟩ := hi
  obtain ⟨hlt, e⟩ := List.getElem?_eq_some_iff.1 hj
  simp at hlt e
  subst e
  obtain ⟨k, o, rfl, hb⟩ := hB i hlt
  exact ⟨k, o, rfl, hb⟩

theorem disk_of {fuel : Nat} {cs : List Value} {x : DataW H × List MemPlace} (h : DataW.trod enc Try.prog w base spare held fuel 32 cs = some x) :
    ∃ a c, ∃ fs : List Fl, cs = [.slice a fs.length c] ∧ Fls w a fs ∧ fs.length ≤ maxLen := by
  obtain ⟨xs, n, -, -, hl, hlen, hf⟩ := DataW.trod_struct Try.underlying32 h
  rw [Try.cellsLawDisk] at hl
  match cs, hl, xs, hlen with
  | [c0], _, [y0], _ =>
    have h0 := hf 0 _ rfl
    simp [Try.cellsLawFiles] at h0
    exact files_of h0

end
end Go.Proofs.Ytljocofhefpapaa
