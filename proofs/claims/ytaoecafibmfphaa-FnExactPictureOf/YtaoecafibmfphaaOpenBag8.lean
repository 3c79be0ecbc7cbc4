/-
  How lists of structs that came in read. Made by mkbagopen.py.
-/
import Derived.Test.YtaoecafibmfphaaOpenEp
import Derived.Test.YtaoecafibmfphaaChn
import Derived.Test.YtaoecafibmfphaaPic
namespace Go.Proofs.Ytaoecafibmfphaa
open Go.ChangeShapes Go.WideShapes Go.ChangeAt Go.RowKit

theorem Try.cellsBool : Try.prog.cellsOf 4 = 1 := by kernel_rfl

theorem Try.cellsBools : Try.prog.cellsOf 48 = 1 := by kernel_rfl

theorem Try.cellsInts : Try.prog.cellsOf 22 = 1 := by kernel_rfl

theorem Try.cellsLawCh : Try.prog.cellsOf 98 = 3 := by kernel_rfl

theorem Try.cellsLawChs : Try.prog.cellsOf 32 = 1 := by kernel_rfl

theorem Try.cellsLawPc : Try.prog.cellsOf 100 = 4 := by kernel_rfl

theorem Try.cellsLawPcs : Try.prog.cellsOf 33 = 1 := by kernel_rfl

section
variable {H : Type} {enc : TypeId × Value → H} {w : World} {base : Nat} {spare : Nat → Bool} {held : Bool}

set_option maxRecDepth 100000 in
theorem bools_of {fuel : Nat} {cs : List Value} {x : DataW H × List MemPlace} (h : DataW.trod enc Try.prog w base spare held fuel 48 cs = some x) :
    ∃ a c, ∃ bs : List Bool, cs = [.slice a bs.length c] ∧ Bools w a bs ∧ bs.length ≤ maxLen := by
  rcases Deep.open_slice Try.underlying48 h with ⟨rfl, -⟩ | ⟨a, len, cap, m, n, D, Pl, rfl, -, hl, hm, hmm, -, hx⟩
  · exact ⟨none, 0, [], rfl, fun i s hi => by simp at hi, by simp⟩
  have hlm : len ≤ m := by rw [hmm]; split <;> omega
  have each : ∀ i, i < len → ∃ b : Bool, ∃ k o, a = ⟨k, o, none⟩ ∧ w.cell? ⟨k, o + i, none⟩ = some (.bool b) := fun i hi => by
    obtain ⟨cs', h1, h2⟩ := hx i (by omega)
    rw [Try.cellsBool] at h1
    obtain ⟨f, rfl, -⟩ := DataW.trod_bool Try.underlying4 h2
    obtain ⟨_, _, hcell⟩ := World.cells?_some h1
    obtain ⟨cs0, g1, g2⟩ := hx 0 (by omega)
    rw [Try.cellsBool] at g1
    obtain ⟨_, rfl, -⟩ := DataW.trod_bool Try.underlying4 g2
    obtain ⟨_, _, gcell⟩ := World.cells?_some g1
    obtain ⟨k, off, spot⟩ := a
    have hspot : spot = none := by simpa [Addr.add] using World.cell?_spot (gcell 0 (by omega))
    subst hspot
    have at_ : ∀ j, (Addr.add ⟨k, off, none⟩ i).add j = ⟨k, off + i + j, none⟩ := fun j => by rw [add_plain, add_plain]
    refine ⟨f, k, off, rfl, ?_⟩
    simpa [at_] using hcell 0 (by omega)
  obtain ⟨B, hB⟩ := Deep.choose_lt each
  refine ⟨some a, cap, (List.range len).map B, by simp, fun i b hi => ?_, by simp; omega⟩
  simp only [List.getElem?_map, Option.map_eq_some_iff] at hi
  obtain ⟨j, hj, rfl⟩ := hi
  obtain ⟨hlt, e⟩ := List.getElem?_eq_some_iff.1 hj
  simp at hlt e
  subst e
  obtain ⟨k, o, rfl, hb⟩ := hB i hlt
  exact ⟨k, o, rfl, hb⟩

set_option maxRecDepth 100000 in
theorem oneChan_of {fuel : Nat} {cs : List Value} {x : DataW H × List MemPlace} (h : DataW.trod enc Try.prog w base spare held fuel 98 cs = some x) :
    ∃ (f : Ch) (r2 : Option Addr) (k2 : Nat), cs = [.int .i64 f.fr, .int .i64 f.to, .slice r2 f.way.length k2] ∧ Ints w r2 f.way ∧ f.way.length ≤ maxLen := by
  obtain ⟨xs, n, -, -, hl, hlen, hf⟩ := DataW.trod_struct Try.underlying98 h
  rw [Try.cellsLawCh] at hl
  match cs, hl, xs, hlen with
  | [c0, c1, c2], _, [y0, y1, y2], _ =>
    have h0 := hf 0 _ rfl
    have h1 := hf 1 _ rfl
    have h2 := hf 2 _ rfl
    simp [Try.cellsInt, Try.cellsInts] at h0 h1 h2
    obtain ⟨s0, e0, -, -⟩ := DataW.trod_int Try.underlying3 h0
    obtain ⟨s1, e1, -, -⟩ := DataW.trod_int Try.underlying3 h1
    obtain ⟨r2, k2, s2, e2, x2, m2⟩ := ints_of h2
    simp at e0 e1 e2
    subst e0 e1 e2
    exact ⟨⟨s0, s1, s2⟩, r2, k2, rfl, x2, m2⟩

set_option maxRecDepth 100000 in
theorem allChan_of {fuel : Nat} {cs : List Value} {x : DataW H × List MemPlace} (h : DataW.trod enc Try.prog w base spare held fuel 32 cs = some x) :
    ∃ a c, ∃ fs : List Ch, cs = [.slice a fs.length c] ∧ Chs w a fs ∧ fs.length ≤ maxLen := by
  rcases Deep.open_slice Try.underlying32 h with ⟨rfl, -⟩ | ⟨a, len, cap, m, n, D, Pl, rfl, -, hl, hm, hmm, -, hx⟩
  · exact ⟨none, 0, [], rfl, fun i s hi => by simp at hi, by simp⟩
  have hlm : len ≤ m := by rw [hmm]; split <;> omega
  have each : ∀ i, i < len → ∃ b : Ch, ∃ k o, a = ⟨k, o, none⟩ ∧ ChAt w k (o + i * 3) b := fun i hi => by
    obtain ⟨cs', h1, h2⟩ := hx i (by omega)
    rw [Try.cellsLawCh] at h1
    obtain ⟨f, r2, k2, rfl, x2, m2⟩ := oneChan_of h2
    obtain ⟨_, _, hcell⟩ := World.cells?_some h1
    obtain ⟨cs0, g1, g2⟩ := hx 0 (by omega)
    rw [Try.cellsLawCh] at g1
    obtain ⟨_, _, _, rfl, -, -⟩ := oneChan_of g2
    obtain ⟨_, _, gcell⟩ := World.cells?_some g1
    obtain ⟨k, off, spot⟩ := a
    have hspot : spot = none := by simpa [Addr.add] using World.cell?_spot (gcell 0 (by omega))
    subst hspot
    have at_ : ∀ j, (Addr.add ⟨k, off, none⟩ (i * 3)).add j = ⟨k, off + i * 3 + j, none⟩ := fun j => by rw [add_plain, add_plain]
    refine ⟨f, k, off, rfl, r2, k2, ?_, ?_, ?_, x2, m2⟩
    · simpa [at_] using hcell 0 (by omega)
    · simpa [at_] using hcell 1 (by omega)
    · simpa [at_] using hcell 2 (by omega)
  haveI : Inhabited Ch := ⟨⟨0, 0, []⟩⟩
  obtain ⟨B, hB⟩ := Deep.choose_lt each
  refine ⟨some a, cap, (List.range len).map B, by simp, fun i b hi => ?_, by simp; omega⟩
  simp only [List.getElem?_map, Option.map_eq_some_iff] at hi
  obtain ⟨j, hj, rfl⟩ := hi
  obtain ⟨hlt, e⟩ := List.getElem?_eq_some_iff.1 hj
  simp at hlt e
  subst e
  obtain ⟨k, o, rfl, hb⟩ := hB i hlt
  exact ⟨k, o, rfl, hb⟩

set_option maxRecDepth 100000 in
theorem onePicture_of {fuel : Nat} {cs : List Value} {x : DataW H × List MemPlace} (h : DataW.trod enc Try.prog w base spare held fuel 100 cs = some x) :
    ∃ (f : Pc) (r2 : Option Addr) (k2 : Nat) (r3 : Option Addr) (k3 : Nat), cs = [.bool f.tk, .int .i64 f.am, .slice r2 f.ins.length k2, .slice r3 f.cl.length k3] ∧ Ints w r2 f.ins ∧ f.ins.length ≤ maxLen ∧ Bools w r3 f.cl ∧ f.cl.length ≤ maxLen := by
  obtain ⟨xs, n, -, -, hl, hlen, hf⟩ := DataW.trod_struct Try.underlying100 h
  rw [Try.cellsLawPc] at hl
  match cs, hl, xs, hlen with
  | [c0, c1, c2, c3], _, [y0, y1, y2, y3], _ =>
    have h0 := hf 0 _ rfl
    have h1 := hf 1 _ rfl
    have h2 := hf 2 _ rfl
    have h3 := hf 3 _ rfl
    simp [Try.cellsInt, Try.cellsBool, Try.cellsInts, Try.cellsBools] at h0 h1 h2 h3
    obtain ⟨s0, e0, -⟩ := DataW.trod_bool Try.underlying4 h0
    obtain ⟨s1, e1, -, -⟩ := DataW.trod_int Try.underlying3 h1
    obtain ⟨r2, k2, s2, e2, x2, m2⟩ := ints_of h2
    obtain ⟨r3, k3, s3, e3, x3, m3⟩ := bools_of h3
    simp at e0 e1 e2 e3
    subst e0 e1 e2 e3
    exact ⟨⟨s0, s1, s2, s3⟩, r2, k2, r3, k3, rfl, x2, m2, x3, m3⟩

set_option maxRecDepth 100000 in
theorem allPicture_of {fuel : Nat} {cs : List Value} {x : DataW H × List MemPlace} (h : DataW.trod enc Try.prog w base spare held fuel 33 cs = some x) :
    ∃ a c, ∃ fs : List Pc, cs = [.slice a fs.length c] ∧ Pcs w a fs ∧ fs.length ≤ maxLen := by
  rcases Deep.open_slice Try.underlying33 h with ⟨rfl, -⟩ | ⟨a, len, cap, m, n, D, Pl, rfl, -, hl, hm, hmm, -, hx⟩
  · exact ⟨none, 0, [], rfl, fun i s hi => by simp at hi, by simp⟩
  have hlm : len ≤ m := by rw [hmm]; split <;> omega
  have each : ∀ i, i < len → ∃ b : Pc, ∃ k o, a = ⟨k, o, none⟩ ∧ PcAt w k (o + i * 4) b := fun i hi => by
    obtain ⟨cs', h1, h2⟩ := hx i (by omega)
    rw [Try.cellsLawPc] at h1
    obtain ⟨f, r2, k2, r3, k3, rfl, x2, m2, x3, m3⟩ := onePicture_of h2
    obtain ⟨_, _, hcell⟩ := World.cells?_some h1
    obtain ⟨cs0, g1, g2⟩ := hx 0 (by omega)
    rw [Try.cellsLawPc] at g1
    obtain ⟨_, _, _, _, _, rfl, -, -, -, -⟩ := onePicture_of g2
    obtain ⟨_, _, gcell⟩ := World.cells?_some g1
    obtain ⟨k, off, spot⟩ := a
    have hspot : spot = none := by simpa [Addr.add] using World.cell?_spot (gcell 0 (by omega))
    subst hspot
    have at_ : ∀ j, (Addr.add ⟨k, off, none⟩ (i * 4)).add j = ⟨k, off + i * 4 + j, none⟩ := fun j => by rw [add_plain, add_plain]
    refine ⟨f, k, off, rfl, r2, k2, r3, k3, ?_, ?_, ?_, ?_, x2, m2, x3, m3⟩
    · simpa [at_] using hcell 0 (by omega)
    · simpa [at_] using hcell 1 (by omega)
    · simpa [at_] using hcell 2 (by omega)
    · simpa [at_] using hcell 3 (by omega)
  haveI : Inhabited Pc := ⟨⟨false, 0, [], []⟩⟩
  obtain ⟨B, hB⟩ := Deep.choose_lt each
  refine ⟨some a, cap, (List.range len).map B, by simp, fun i b hi => ?_, by simp; omega⟩
  simp only [List.getElem?_map, Option.map_eq_some_iff] at hi
  obtain ⟨j, hj, rfl⟩ := hi
  obtain ⟨hlt, e⟩ := List.getElem?_eq_some_iff.1 hj
  simp at hlt e
  subst e
  obtain ⟨k, o, rfl, hb⟩ := hB i hlt
  exact ⟨k, o, rfl, hb⟩

end
end Go.Proofs.Ytaoecafibmfphaa
