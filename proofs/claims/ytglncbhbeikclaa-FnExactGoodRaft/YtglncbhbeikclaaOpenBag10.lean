/-
  How lists of structs that came in read. Made by mkbagopen.py.
-/
import Derived.Test.YtglncbhbeikclaaOpenEp
import Derived.Test.YtglncbhbeikclaaPer
import Derived.Test.YtglncbhbeikclaaMal
namespace Go.Proofs.Ytglncbhbeikclaa
open Go.ChangeShapes Go.WideShapes Go.ChangeAt Go.RowKit

theorem Try.cellsBool : Try.prog.cellsOf 4 = 1 := by kernel_rfl

theorem Try.cellsInts : Try.prog.cellsOf 50 = 1 := by kernel_rfl

theorem Try.cellsLawEn : Try.prog.cellsOf 86 = 2 := by kernel_rfl

theorem Try.cellsLawEns : Try.prog.cellsOf 44 = 1 := by kernel_rfl

theorem Try.cellsLawPe : Try.prog.cellsOf 92 = 5 := by kernel_rfl

theorem Try.cellsLawPes : Try.prog.cellsOf 31 = 1 := by kernel_rfl

theorem Try.cellsLawMa : Try.prog.cellsOf 95 = 9 := by kernel_rfl

theorem Try.cellsLawMas : Try.prog.cellsOf 32 = 1 := by kernel_rfl

section
variable {H : Type} {enc : TypeId × Value → H} {w : World} {base : Nat} {spare : Nat → Bool} {held : Bool}

set_option maxRecDepth 100000 in
theorem oneEntry_of {fuel : Nat} {cs : List Value} {x : DataW H × List MemPlace} (h : DataW.trod enc Try.prog w base spare held fuel 86 cs = some x) :
    ∃ (f : En), cs = [.int .i64 f.term, .int .i64 f.val] := by
  obtain ⟨xs, n, -, -, hl, hlen, hf⟩ := DataW.trod_struct Try.underlying86 h
  rw [Try.cellsLawEn] at hl
  match cs, hl, xs, hlen with
  | [c0, c1], _, [y0, y1], _ =>
    have h0 := hf 0 _ rfl
    have h1 := hf 1 _ rfl
    simp [Try.cellsInt] at h0 h1
    obtain ⟨s0, e0, -, -⟩ := DataW.trod_int Try.underlying3 h0
    obtain ⟨s1, e1, -, -⟩ := DataW.trod_int Try.underlying3 h1
    simp at e0 e1
    subst e0 e1
    exact ⟨⟨s0, s1⟩, rfl⟩

set_option maxRecDepth 100000 in
theorem allEntry_of {fuel : Nat} {cs : List Value} {x : DataW H × List MemPlace} (h : DataW.trod enc Try.prog w base spare held fuel 44 cs = some x) :
    ∃ a c, ∃ fs : List En, cs = [.slice a fs.length c] ∧ Ens w a fs ∧ fs.length ≤ maxLen := by
  rcases Deep.open_slice Try.underlying44 h with ⟨rfl, -⟩ | ⟨a, len, cap, m, n, D, Pl, rfl, -, hl, hm, hmm, -, hx⟩
  · exact ⟨none, 0, [], rfl, fun i s hi => by simp at hi, by simp⟩
  have hlm : len ≤ m := by rw [hmm]; split <;> omega
  have each : ∀ i, i < len → ∃ b : En, ∃ k o, a = ⟨k, o, none⟩ ∧ EnAt w k (o + i * 2) b := fun i hi => by
    obtain ⟨cs', h1, h2⟩ := hx i (by omega)
    rw [Try.cellsLawEn] at h1
    obtain ⟨f, rfl⟩ := oneEntry_of h2
    obtain ⟨_, _, hcell⟩ := World.cells?_some h1
    obtain ⟨cs0, g1, g2⟩ := hx 0 (by omega)
    rw [Try.cellsLawEn] at g1
    obtain ⟨_, rfl⟩ := oneEntry_of g2
    obtain ⟨_, _, gcell⟩ := World.cells?_some g1
    obtain ⟨k, off, spot⟩ := a
    have hspot : spot = none := by simpa [Addr.add] using World.cell?_spot (gcell 0 (by omega))
    subst hspot
    have at_ : ∀ j, (Addr.add ⟨k, off, none⟩ (i * 2)).add j = ⟨k, off + i * 2 + j, none⟩ := fun j => by rw [add_plain, add_plain]
    refine ⟨f, k, off, rfl, ?_, ?_⟩
    · simpa [at_] using hcell 0 (by omega)
    · simpa [at_] using hcell 1 (by omega)
  haveI : Inhabited En := ⟨⟨0, 0⟩⟩
  obtain ⟨B, hB⟩ := Deep.choose_lt each
  refine ⟨some a, cap, (List.range len).map B, by simp, fun i b hi => ?_, by simp; omega⟩
  simp only [List.getElem?_map, Option.map_eq_some_iff] at hi
  obtain ⟨j, hj, rfl⟩ := hi
  obtain ⟨hlt, e⟩ := List.getElem?_eq_some_iff.1 hj
  simp at hlt e
  subst e
  obtain ⟨k, o, rfl, hb⟩ := hB i hlt
  exact ⟨k, o, rfl, hb⟩

set_option maxRecDepth 100000 in
theorem onePeer_of {fuel : Nat} {cs : List Value} {x : DataW H × List MemPlace} (h : DataW.trod enc Try.prog w base spare held fuel 92 cs = some x) :
    ∃ (f : Pe) (r2 : Option Addr) (k2 : Nat) (r4 : Option Addr) (k4 : Nat), cs = [.int .i64 f.term, .bool f.leads, .slice r2 f.log.length k2, .int .i64 f.commit, .slice r4 f.mat.length k4] ∧ Ens w r2 f.log ∧ f.log.length ≤ maxLen ∧ Ints w r4 f.mat ∧ f.mat.length ≤ maxLen := by
  obtain ⟨xs, n, -, -, hl, hlen, hf⟩ := DataW.trod_struct Try.underlying92 h
  rw [Try.cellsLawPe] at hl
  match cs, hl, xs, hlen with
  | [c0, c1, c2, c3, c4], _, [y0, y1, y2, y3, y4], _ =>
    have h0 := hf 0 _ rfl
    have h1 := hf 1 _ rfl
    have h2 := hf 2 _ rfl
    have h3 := hf 3 _ rfl
    have h4 := hf 4 _ rfl
    simp [Try.cellsInt, Try.cellsBool, Try.cellsInts, Try.cellsLawEns] at h0 h1 h2 h3 h4
    obtain ⟨s0, e0, -, -⟩ := DataW.trod_int Try.underlying3 h0
    obtain ⟨s1, e1, -⟩ := DataW.trod_bool Try.underlying4 h1
    obtain ⟨r2, k2, s2, e2, x2, m2⟩ := allEntry_of h2
    obtain ⟨s3, e3, -, -⟩ := DataW.trod_int Try.underlying3 h3
    obtain ⟨r4, k4, s4, e4, x4, m4⟩ := ints_of h4
    simp at e0 e1 e2 e3 e4
    subst e0 e1 e2 e3 e4
    exact ⟨⟨s0, s1, s2, s3, s4⟩, r2, k2, r4, k4, rfl, x2, m2, x4, m4⟩

set_option maxRecDepth 100000 in
theorem allPeer_of {fuel : Nat} {cs : List Value} {x : DataW H × List MemPlace} (h : DataW.trod enc Try.prog w base spare held fuel 31 cs = some x) :
    ∃ a c, ∃ fs : List Pe, cs = [.slice a fs.length c] ∧ Pes w a fs ∧ fs.length ≤ maxLen := by
  rcases Deep.open_slice Try.underlying31 h with ⟨rfl, -⟩ | ⟨a, len, cap, m, n, D, Pl, rfl, -, hl, hm, hmm, -, hx⟩
  · exact ⟨none, 0, [], rfl, fun i s hi => by simp at hi, by simp⟩
  have hlm : len ≤ m := by rw [hmm]; split <;> omega
  have each : ∀ i, i < len → ∃ b : Pe, ∃ k o, a = ⟨k, o, none⟩ ∧ PeAt w k (o + i * 5) b := fun i hi => by
    obtain ⟨cs', h1, h2⟩ := hx i (by omega)
    rw [Try.cellsLawPe] at h1
    obtain ⟨f, r2, k2, r4, k4, rfl, x2, m2, x4, m4⟩ := onePeer_of h2
    obtain ⟨_, _, hcell⟩ := World.cells?_some h1
    obtain ⟨cs0, g1, g2⟩ := hx 0 (by omega)
    rw [Try.cellsLawPe] at g1
    obtain ⟨_, _, _, _, _, rfl, -, -, -, -⟩ := onePeer_of g2
    obtain ⟨_, _, gcell⟩ := World.cells?_some g1
    obtain ⟨k, off, spot⟩ := a
    have hspot : spot = none := by simpa [Addr.add] using World.cell?_spot (gcell 0 (by omega))
    subst hspot
    have at_ : ∀ j, (Addr.add ⟨k, off, none⟩ (i * 5)).add j = ⟨k, off + i * 5 + j, none⟩ := fun j => by rw [add_plain, add_plain]
    refine ⟨f, k, off, rfl, r2, k2, r4, k4, ?_, ?_, ?_, ?_, ?_, x2, m2, x4, m4⟩
    · simpa [at_] using hcell 0 (by omega)
    · simpa [at_] using hcell 1 (by omega)
    · simpa [at_] using hcell 2 (by omega)
    · simpa [at_] using hcell 3 (by omega)
    · simpa [at_] using hcell 4 (by omega)
  haveI : Inhabited Pe := ⟨⟨0, false, [], 0, []⟩⟩
  obtain ⟨B, hB⟩ := Deep.choose_lt each
  refine ⟨some a, cap, (List.range len).map B, by simp, fun i b hi => ?_, by simp; omega⟩
  simp only [List.getElem?_map, Option.map_eq_some_iff] at hi
  obtain ⟨j, hj, rfl⟩ := hi
  obtain ⟨hlt, e⟩ := List.getElem?_eq_some_iff.1 hj
  simp at hlt e
  subst e
  obtain ⟨k, o, rfl, hb⟩ := hB i hlt
  exact ⟨k, o, rfl, hb⟩

set_option maxRecDepth 100000 in
theorem oneMail_of {fuel : Nat} {cs : List Value} {x : DataW H × List MemPlace} (h : DataW.trod enc Try.prog w base spare held fuel 95 cs = some x) :
    ∃ (f : Ma) (r6 : Option Addr) (k6 : Nat), cs = [.bool f.reply, .int .i64 f.fr, .int .i64 f.to, .int .i64 f.term, .int .i64 f.prev, .int .i64 f.pterm, .slice r6 f.entry.length k6, .int .i64 f.commit, .int .i64 f.mat] ∧ Ens w r6 f.entry ∧ f.entry.length ≤ maxLen := by
  obtain ⟨xs, n, -, -, hl, hlen, hf⟩ := DataW.trod_struct Try.underlying95 h
  rw [Try.cellsLawMa] at hl
  match cs, hl, xs, hlen with
  | [c0, c1, c2, c3, c4, c5, c6, c7, c8], _, [y0, y1, y2, y3, y4, y5, y6, y7, y8], _ =>
    have h0 := hf 0 _ rfl
    have h1 := hf 1 _ rfl
    have h2 := hf 2 _ rfl
    have h3 := hf 3 _ rfl
    have h4 := hf 4 _ rfl
    have h5 := hf 5 _ rfl
    have h6 := hf 6 _ rfl
    have h7 := hf 7 _ rfl
    have h8 := hf 8 _ rfl
    simp [Try.cellsInt, Try.cellsBool, Try.cellsLawEns] at h0 h1 h2 h3 h4 h5 h6 h7 h8
    obtain ⟨s0, e0, -⟩ := DataW.trod_bool Try.underlying4 h0
    obtain ⟨s1, e1, -, -⟩ := DataW.trod_int Try.underlying3 h1
    obtain ⟨s2, e2, -, -⟩ := DataW.trod_int Try.underlying3 h2
    obtain ⟨s3, e3, -, -⟩ := DataW.trod_int Try.underlying3 h3
    obtain ⟨s4, e4, -, -⟩ := DataW.trod_int Try.underlying3 h4
    obtain ⟨s5, e5, -, -⟩ := DataW.trod_int Try.underlying3 h5
    obtain ⟨r6, k6, s6, e6, x6, m6⟩ := allEntry_of h6
    obtain ⟨s7, e7, -, -⟩ := DataW.trod_int Try.underlying3 h7
    obtain ⟨s8, e8, -, -⟩ := DataW.trod_int Try.underlying3 h8
    simp at e0 e1 e2 e3 e4 e5 e6 e7 e8
    subst e0 e1 e2 e3 e4 e5 e6 e7 e8
    exact ⟨⟨s0, s1, s2, s3, s4, s5, s6, s7, s8⟩, r6, k6, rfl, x6, m6⟩

set_option maxRecDepth 100000 in
theorem allMail_of {fuel : Nat} {cs : List Value} {x : DataW H × List MemPlace} (h : DataW.trod enc Try.prog w base spare held fuel 32 cs = some x) :
    ∃ a c, ∃ fs : List Ma, cs = [.slice a fs.length c] ∧ Mas w a fs ∧ fs.length ≤ maxLen := by
  rcases Deep.open_slice Try.underlying32 h with ⟨rfl, -⟩ | ⟨a, len, cap, m, n, D, Pl, rfl, -, hl, hm, hmm, -, hx⟩
  · exact ⟨none, 0, [], rfl, fun i s hi => by simp at hi, by simp⟩
  have hlm : len ≤ m := by rw [hmm]; split <;> omega
  have each : ∀ i, i < len → ∃ b : Ma, ∃ k o, a = ⟨k, o, none⟩ ∧ MaAt w k (o + i * 9) b := fun i hi => by
    obtain ⟨cs', h1, h2⟩ := hx i (by omega)
    rw [Try.cellsLawMa] at h1
    obtain ⟨f, r6, k6, rfl, x6, m6⟩ := oneMail_of h2
    obtain ⟨_, _, hcell⟩ := World.cells?_some h1
    obtain ⟨cs0, g1, g2⟩ := hx 0 (by omega)
    rw [Try.cellsLawMa] at g1
    obtain ⟨_, _, _, rfl, -, -⟩ := oneMail_of g2
    obtain ⟨_, _, gcell⟩ := World.cells?_some g1
    obtain ⟨k, off, spot⟩ := a
    have hspot : spot = none := by simpa [Addr.add] using World.cell?_spot (gcell 0 (by omega))
    subst hspot
    have at_ : ∀ j, (Addr.add ⟨k, off, none⟩ (i * 9)).add j = ⟨k, off + i * 9 + j, none⟩ := fun j => by rw [add_plain, add_plain]
    refine ⟨f, k, off, rfl, r6, k6, ?_, ?_, ?_, ?_, ?_, ?_, ?_, ?_, ?_, x6, m6⟩
    · simpa [at_] using hcell 0 (by omega)
    · simpa [at_] using hcell 1 (by omega)
    · simpa [at_] using hcell 2 (by omega)
    · simpa [at_] using hcell 3 (by omega)
    · simpa [at_] using hcell 4 (by omega)
    · simpa [at_] using hcell 5 (by omega)
    · simpa [at_] using hcell 6 (by omega)
    · simpa [at_] using hcell 7 (by omega)
    · simpa [at_] using hcell 8 (by omega)
  haveI : Inhabited Ma := ⟨⟨false, 0, 0, 0, 0, 0, [], 0, 0⟩⟩
  obtain ⟨B, hB⟩ := Deep.choose_lt each
  refine ⟨some a, cap, (List.range len).map B, by simp, fun i b hi => ?_, by simp; omega⟩
  simp only [List.getElem?_map, Option.map_eq_some_iff] at hi
  obtain ⟨j, hj, rfl⟩ := hi
  obtain ⟨hlt, e⟩ := List.getElem?_eq_some_iff.1 hj
  simp at hlt e
  subst e
  obtain ⟨k, o, rfl, hb⟩ := hB i hlt
  exact ⟨k, o, rfl, hb⟩

end
end Go.Proofs.Ytglncbhbeikclaa
