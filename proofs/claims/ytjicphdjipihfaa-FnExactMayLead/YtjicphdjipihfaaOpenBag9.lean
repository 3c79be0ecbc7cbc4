/-
  How lists of structs that came in read. Made by mkbagopen.py.
-/
import Derived.Test.YtjicphdjipihfaaOpenEp
import Derived.Test.YtjicphdjipihfaaSrv
import Derived.Test.YtjicphdjipihfaaLtr
import Derived.Test.YtjicphdjipihfaaVte
namespace Go.Proofs.Ytjicphdjipihfaa
open Go.ChangeShapes Go.WideShapes Go.ChangeAt Go.RowKit

theorem Try.cellsBool : Try.prog.cellsOf 4 = 1 := by kernel_rfl

theorem Try.cellsInts : Try.prog.cellsOf 48 = 1 := by kernel_rfl

theorem Try.cellsLawSv : Try.prog.cellsOf 92 = 6 := by kernel_rfl

theorem Try.cellsLawSvs : Try.prog.cellsOf 36 = 1 := by kernel_rfl

theorem Try.cellsLawLt : Try.prog.cellsOf 96 = 7 := by kernel_rfl

theorem Try.cellsLawLts : Try.prog.cellsOf 37 = 1 := by kernel_rfl

theorem Try.cellsLawVt : Try.prog.cellsOf 98 = 2 := by kernel_rfl

theorem Try.cellsLawVts : Try.prog.cellsOf 38 = 1 := by kernel_rfl

section
variable {H : Type} {enc : TypeId × Value → H} {w : World} {base : Nat} {spare : Nat → Bool} {held : Bool}

set_option maxRecDepth 100000 in
theorem oneServer_of {fuel : Nat} {cs : List Value} {x : DataW H × List MemPlace} (h : DataW.trod enc Try.prog w base spare held fuel 92 cs = some x) :
    ∃ (f : Sv) (r4 : Option Addr) (k4 : Nat) (r5 : Option Addr) (k5 : Nat), cs = [.int .i64 f.term, .int .i64 f.voted, .bool f.stands, .bool f.leads, .slice r4 f.got.length k4, .slice r5 f.log.length k5] ∧ Ints w r4 f.got ∧ f.got.length ≤ maxLen ∧ Ints w r5 f.log ∧ f.log.length ≤ maxLen := by
  obtain ⟨xs, n, -, -, hl, hlen, hf⟩ := DataW.trod_struct Try.underlying92 h
  rw [Try.cellsLawSv] at hl
  match cs, hl, xs, hlen with
  | [c0, c1, c2, c3, c4, c5], _, [y0, y1, y2, y3, y4, y5], _ =>
    have h0 := hf 0 _ rfl
    have h1 := hf 1 _ rfl
    have h2 := hf 2 _ rfl
    have h3 := hf 3 _ rfl
    have h4 := hf 4 _ rfl
    have h5 := hf 5 _ rfl
    simp [Try.cellsInt, Try.cellsBool, Try.cellsInts] at h0 h1 h2 h3 h4 h5
    obtain ⟨s0, e0, -, -⟩ := DataW.trod_int Try.underlying3 h0
    obtain ⟨s1, e1, -, -⟩ := DataW.trod_int Try.underlying3 h1
    obtain ⟨s2, e2, -⟩ := DataW.trod_bool Try.underlying4 h2
    obtain ⟨s3, e3, -⟩ := DataW.trod_bool Try.underlying4 h3
    obtain ⟨r4, k4, s4, e4, x4, m4⟩ := ints_of h4
    obtain ⟨r5, k5, s5, e5, x5, m5⟩ := ints_of h5
    simp at e0 e1 e2 e3 e4 e5
    subst e0 e1 e2 e3 e4 e5
    exact ⟨⟨s0, s1, s2, s3, s4, s5⟩, r4, k4, r5, k5, rfl, x4, m4, x5, m5⟩

set_option maxRecDepth 100000 in
theorem allServer_of {fuel : Nat} {cs : List Value} {x : DataW H × List MemPlace} (h : DataW.trod enc Try.prog w base spare held fuel 36 cs = some x) :
    ∃ a c, ∃ fs : List Sv, cs = [.slice a fs.length c] ∧ Svs w a fs ∧ fs.length ≤ maxLen := by
  rcases Deep.open_slice Try.underlying36 h with ⟨rfl, -⟩ | ⟨a, len, cap, m, n, D, Pl, rfl, -, hl, hm, hmm, -, hx⟩
  · exact ⟨none, 0, [], rfl, fun i s hi => by simp at hi, by simp⟩
  have hlm : len ≤ m := by rw [hmm]; split <;> omega
  have each : ∀ i, i < len → ∃ b : Sv, ∃ k o, a = ⟨k, o, none⟩ ∧ SvAt w k (o + i * 6) b := fun i hi => by
    obtain ⟨cs', h1, h2⟩ := hx i (by omega)
    rw [Try.cellsLawSv] at h1
    obtain ⟨f, r4, k4, r5, k5, rfl, x4, m4, x5, m5⟩ := oneServer_of h2
    obtain ⟨_, _, hcell⟩ := World.cells?_some h1
    obtain ⟨cs0, g1, g2⟩ := hx 0 (by omega)
    rw [Try.cellsLawSv] at g1
    obtain ⟨_, _, _, _, _, rfl, -, -, -, -⟩ := oneServer_of g2
    obtain ⟨_, _, gcell⟩ := World.cells?_some g1
    obtain ⟨k, off, spot⟩ := a
    have hspot : spot = none := by simpa [Addr.add] using World.cell?_spot (gcell 0 (by omega))
    subst hspot
    have at_ : ∀ j, (Addr.add ⟨k, off, none⟩ (i * 6)).add j = ⟨k, off + i * 6 + j, none⟩ := fun j => by rw [add_plain, add_plain]
    refine ⟨f, k, off, rfl, r4, k4, r5, k5, ?_, ?_, ?_, ?_, ?_, ?_, x4, m4, x5, m5⟩
    · simpa [at_] using hcell 0 (by omega)
    · simpa [at_] using hcell 1 (by omega)
    · simpa [at_] using hcell 2 (by omega)
    · simpa [at_] using hcell 3 (by omega)
    · simpa [at_] using hcell 4 (by omega)
    · simpa [at_] using hcell 5 (by omega)
  haveI : Inhabited Sv := ⟨⟨0, 0, false, false, [], []⟩⟩
  obtain ⟨B, hB⟩ := Deep.choose_lt each
  refine ⟨some a, cap, (List.range len).map B, by simp, fun i b hi => ?_, by simp; omega⟩
  simp only [List.getElem?_map, Option.map_eq_some_iff] at hi
  obtain ⟨j, hj, rfl⟩ := hi
  obtain ⟨hlt, e⟩ := List.getElem?_eq_some_iff.1 hj
  simp at hlt e
  subst e
  obtain ⟨k, o, rfl, hb⟩ := hB i hlt
  exact ⟨k, o, rfl, hb⟩

set_option maxRecDepth 100000 in
theorem oneLetter_of {fuel : Nat} {cs : List Value} {x : DataW H × List MemPlace} (h : DataW.trod enc Try.prog w base spare held fuel 96 cs = some x) :
    ∃ (f : Lt), cs = [.int .i64 f.to, .int .i64 f.fr, .int .i64 f.term, .bool f.asks, .int .i64 f.last, .int .i64 f.long, .bool f.grant] := by
  obtain ⟨xs, n, -, -, hl, hlen, hf⟩ := DataW.trod_struct Try.underlying96 h
  rw [Try.cellsLawLt] at hl
  match cs, hl, xs, hlen with
  | [c0, c1, c2, c3, c4, c5, c6], _, [y0, y1, y2, y3, y4, y5, y6], _ =>
    have h0 := hf 0 _ rfl
    have h1 := hf 1 _ rfl
    have h2 := hf 2 _ rfl
    have h3 := hf 3 _ rfl
    have h4 := hf 4 _ rfl
    have h5 := hf 5 _ rfl
    have h6 := hf 6 _ rfl
    simp [Try.cellsInt, Try.cellsBool] at h0 h1 h2 h3 h4 h5 h6
    obtain ⟨s0, e0, -, -⟩ := DataW.trod_int Try.underlying3 h0
    obtain ⟨s1, e1, -, -⟩ := DataW.trod_int Try.underlying3 h1
    obtain ⟨s2, e2, -, -⟩ := DataW.trod_int Try.underlying3 h2
    obtain ⟨s3, e3, -⟩ := DataW.trod_bool Try.underlying4 h3
    obtain ⟨s4, e4, -, -⟩ := DataW.trod_int Try.underlying3 h4
    obtain ⟨s5, e5, -, -⟩ := DataW.trod_int Try.underlying3 h5
    obtain ⟨s6, e6, -⟩ := DataW.trod_bool Try.underlying4 h6
    simp at e0 e1 e2 e3 e4 e5 e6
    subst e0 e1 e2 e3 e4 e5 e6
    exact ⟨⟨s0, s1, s2, s3, s4, s5, s6⟩, rfl⟩

set_option maxRecDepth 100000 in
theorem allLetter_of {fuel : Nat} {cs : List Value} {x : DataW H × List MemPlace} (h : DataW.trod enc Try.prog w base spare held fuel 37 cs = some x) :
    ∃ a c, ∃ fs : List Lt, cs = [.slice a fs.length c] ∧ Lts w a fs ∧ fs.length ≤ maxLen := by
  rcases Deep.open_slice Try.underlying37 h with ⟨rfl, -⟩ | ⟨a, len, cap, m, n, D, Pl, rfl, -, hl, hm, hmm, -, hx⟩
  · exact ⟨none, 0, [], rfl, fun i s hi => by simp at hi, by simp⟩
  have hlm : len ≤ m := by rw [hmm]; split <;> omega
  have each : ∀ i, i < len → ∃ b : Lt, ∃ k o, a = ⟨k, o, none⟩ ∧ LtAt w k (o + i * 7) b := fun i hi => by
    obtain ⟨cs', h1, h2⟩ := hx i (by omega)
    rw [Try.cellsLawLt] at h1
    obtain ⟨f, rfl⟩ := oneLetter_of h2
    obtain ⟨_, _, hcell⟩ := World.cells?_some h1
    obtain ⟨cs0, g1, g2⟩ := hx 0 (by omega)
    rw [Try.cellsLawLt] at g1
    obtain ⟨_, rfl⟩ := oneLetter_of g2
    obtain ⟨_, _, gcell⟩ := World.cells?_some g1
    obtain ⟨k, off, spot⟩ := a
    have hspot : spot = none := by simpa [Addr.add] using World.cell?_spot (gcell 0 (by omega))
    subst hspot
    have at_ : ∀ j, (Addr.add ⟨k, off, none⟩ (i * 7)).add j = ⟨k, off + i * 7 + j, none⟩ := fun j => by rw [add_plain, add_plain]
    refine ⟨f, k, off, rfl, ?_, ?_, ?_, ?_, ?_, ?_, ?_⟩
    · simpa [at_] using hcell 0 (by omega)
    · simpa [at_] using hcell 1 (by omega)
    · simpa [at_] using hcell 2 (by omega)
    · simpa [at_] using hcell 3 (by omega)
    · simpa [at_] using hcell 4 (by omega)
    · simpa [at_] using hcell 5 (by omega)
    · simpa [at_] using hcell 6 (by omega)
  haveI : Inhabited Lt := ⟨⟨0, 0, 0, false, 0, 0, false⟩⟩
  obtain ⟨B, hB⟩ := Deep.choose_lt each
  refine ⟨some a, cap, (List.range len).map B, by simp, fun i b hi => ?_, by simp; omega⟩
  simp only [List.getElem?_map, Option.map_eq_some_iff] at hi
  obtain ⟨j, hj, rfl⟩ := hi
  obtain ⟨hlt, e⟩ := List.getElem?_eq_some_iff.1 hj
  simp at hlt e
  subst e
  obtain ⟨k, o, rfl, hb⟩ := hB i hlt
  exact ⟨k, o, rfl, hb⟩

set_option maxRecDepth 100000 in
theorem oneVote_of {fuel : Nat} {cs : List Value} {x : DataW H × List MemPlace} (h : DataW.trod enc Try.prog w base spare held fuel 98 cs = some x) :
    ∃ (f : Vt), cs = [.int .i64 f.term, .int .i64 f.ldr] := by
  obtain ⟨xs, n, -, -, hl, hlen, hf⟩ := DataW.trod_struct Try.underlying98 h
  rw [Try.cellsLawVt] at hl
  match cs, hl, xs, hlen with
  | [c0, c1], _, [y0, y1], _ =>
    have h0 := hf 0 _ rfl
    have h1 := hf 1 _ rfl
    simp [Try.cellsInt] at h0 h1
    obtain ⟨s0, e0, -, -⟩ := DataW.trod_int Try.underlying3 h0
    obtain ⟨s1, e1, -, -⟩ := DataW.trod_int Try.underlying3 h1
    simp at e0 e1
    subst e0 e1
    exact ⟨⟨s0, s1⟩, rfl⟩

set_option maxRecDepth 100000 in
theorem allVote_of {fuel : Nat} {cs : List Value} {x : DataW H × List MemPlace} (h : DataW.trod enc Try.prog w base spare held fuel 38 cs = some x) :
    ∃ a c, ∃ fs : List Vt, cs = [.slice a fs.length c] ∧ Vts w a fs ∧ fs.length ≤ maxLen := by
  rcases Deep.open_slice Try.underlying38 h with ⟨rfl, -⟩ | ⟨a, len, cap, m, n, D, Pl, rfl, -, hl, hm, hmm, -, hx⟩
  · exact ⟨none, 0, [], rfl, fun i s hi => by simp at hi, by simp⟩
  have hlm : len ≤ m := by rw [hmm]; split <;> omega
  have each : ∀ i, i < len → ∃ b : Vt, ∃ k o, a = ⟨k, o, none⟩ ∧ VtAt w k (o + i * 2) b := fun i hi => by
    obtain ⟨cs', h1, h2⟩ := hx i (by omega)
    rw [Try.cellsLawVt] at h1
    obtain ⟨f, rfl⟩ := oneVote_of h2
    obtain ⟨_, _, hcell⟩ := World.cells?_some h1
    obtain ⟨cs0, g1, g2⟩ := hx 0 (by omega)
    rw [Try.cellsLawVt] at g1
    obtain ⟨_, rfl⟩ := oneVote_of g2
    obtain ⟨_, _, gcell⟩ := World.cells?_some g1
    obtain ⟨k, off, spot⟩ := a
    have hspot : spot = none := by simpa [Addr.add] using World.cell?_spot (gcell 0 (by omega))
    subst hspot
    have at_ : ∀ j, (Addr.add ⟨k, off, none⟩ (i * 2)).add j = ⟨k, off + i * 2 + j, none⟩ := fun j => by rw [add_plain, add_plain]
    refine ⟨f, k, off, rfl, ?_, ?_⟩
    · simpa [at_] using hcell 0 (by omega)
    · simpa [at_] using hcell 1 (by omega)
  haveI : Inhabited Vt := ⟨⟨0, 0⟩⟩
  obtain ⟨B, hB⟩ := Deep.choose_lt each
  refine ⟨some a, cap, (List.range len).map B, by simp, fun i b hi => ?_, by simp; omega⟩
  simp only [List.getElem?_map, Option.map_eq_some_iff] at hi
  obtain ⟨j, hj, rfl⟩ := hi
  obtain ⟨hlt, e⟩ := List.getElem?_eq_some_iff.1 hj
  simp at hlt e
  subst e
  obtain ⟨k, o, rfl, hb⟩ := hB i hlt
  exact ⟨k, o, rfl, hb⟩

end
end Go.Proofs.Ytjicphdjipihfaa
