/-
  How lists of structs that came in read. Made by mkbagopen.py.
  How a Group that came in reads. Made by mktop.py.
-/
import Derived.Test.YtkhbgdnhkaeamaaDoorOpenEp
import Derived.Test.YtkhbgdnhkaeamaaDoorRpl
import Derived.Test.YtkhbgdnhkaeamaaDoorGrp
namespace Go.Proofs.YtkhbgdnhkaeamaaDoor
open Go.ChangeShapes Go.WideShapes Go.ChangeAt Go.RowKit

theorem Tryd.cellsBool : Tryd.prog.cellsOf 4 = 1 := by kernel_rfl

theorem Tryd.cellsBools : Tryd.prog.cellsOf 44 = 1 := by kernel_rfl

theorem Tryd.cellsInts : Tryd.prog.cellsOf 22 = 1 := by kernel_rfl

theorem Tryd.cellsLawRw : Tryd.prog.cellsOf 128 = 2 := by kernel_rfl

theorem Tryd.cellsLawRws : Tryd.prog.cellsOf 91 = 1 := by kernel_rfl

theorem Tryd.cellsLawRp : Tryd.prog.cellsOf 93 = 3 := by kernel_rfl

theorem Tryd.cellsLawRps : Tryd.prog.cellsOf 31 = 1 := by kernel_rfl

section
variable {H : Type} {enc : TypeId × Value → H} {w : World} {base : Nat} {spare : Nat → Bool} {held : Bool}

set_option maxRecDepth 100000 in
theorem bools_of {fuel : Nat} {cs : List Value} {x : DataW H × List MemPlace} (h : DataW.trod enc Tryd.prog w base spare held fuel 44 cs = some x) :
    ∃ a c, ∃ bs : List Bool, cs = [.slice a bs.length c] ∧ Bools w a bs ∧ bs.length ≤ maxLen := by
  rcases Deep.open_slice Tryd.underlying44 h with ⟨rfl, -⟩ | ⟨a, len, cap, m, n, D, Pl, rfl, -, hl, hm, hmm, -, hx⟩
  · exact ⟨none, 0, [], rfl, fun i s hi => by simp at hi, by simp⟩
  have hlm : len ≤ m := by rw [hmm]; split <;> omega
  have each : ∀ i, i < len → ∃ b : Bool, ∃ k o, a = ⟨k, o, none⟩ ∧ w.cell? ⟨k, o + i, none⟩ = some (.bool b) := fun i hi => by
    obtain ⟨cs', h1, h2⟩ := hx i (by omega)
    rw [Tryd.cellsBool] at h1
    obtain ⟨f, rfl, -⟩ := DataW.trod_bool Tryd.underlying4 h2
    obtain ⟨_, _, hcell⟩ := World.cells?_some h1
    obtain ⟨cs0, g1, g2⟩ := hx 0 (by omega)
    rw [Tryd.cellsBool] at g1
    obtain ⟨_, rfl, -⟩ := DataW.trod_bool Tryd.underlying4 g2
    obtain ⟨_, _, gcell⟩ := World.cells?_some g1
    obtain ⟨k, off, spot⟩ := a
    have hspot : spot = none := by simpa [Addr.add] using World.cell?_spot (gcell 0 (by omega))
    subst hspot
    have at_ : ∀ j, (Addr.add ⟨k, off, none⟩ i).add j = ⟨k, off + i + j, none⟩ := fun j => by rw [add_plain, add_plain]
    refine ⟨f, k, off, rfl, ?_⟩
    simpa [at_] using hcell 0 (by omega)
  obtain ⟨B, hB⟩ := Deep.choose_lt each
  refine ⟨some a, cap, (List.range len).map B, by simp, fun i b hi => ?_, by simp; omega⟩
  simp only [List.getElem?_map, Option.map_eq_some_iff] at hi
  obtain ⟨j, hj, rfl⟩ := hi
  obtain ⟨hlt, e⟩ := List.getElem?_eq_some_iff.1 hj
  simp at hlt e
  subst e
  obtain ⟨k, o, rfl, hb⟩ := hB i hlt
  exact ⟨k, o, rfl, hb⟩

set_option maxRecDepth 100000 in
theorem oneRow_of {fuel : Nat} {cs : List Value} {x : DataW H × List MemPlace} (h : DataW.trod enc Tryd.prog w base spare held fuel 128 cs = some x) :
    ∃ (f : Rw), cs = [.int .i64 f.epoch, .int .i64 f.val] := by
  obtain ⟨xs, n, -, -, hl, hlen, hf⟩ := DataW.trod_struct Tryd.underlying128 h
  rw [Tryd.cellsLawRw] at hl
  match cs, hl, xs, hlen with
  | [c0, c1], _, [y0, y1], _ =>
    have h0 := hf 0 _ rfl
    have h1 := hf 1 _ rfl
    simp [Tryd.cellsInt] at h0 h1
    obtain ⟨s0, e0, -, -⟩ := DataW.trod_int Tryd.underlying3 h0
    obtain ⟨s1, e1, -, -⟩ := DataW.trod_int Tryd.underlying3 h1
    simp at e0 e1
    subst e0 e1
    exact ⟨⟨s0, s1⟩, rfl⟩

set_option maxRecDepth 100000 in
theorem allRow_of {fuel : Nat} {cs : List Value} {x : DataW H × List MemPlace} (h : DataW.trod enc Tryd.prog w base spare held fuel 91 cs = some x) :
    ∃ a c, ∃ fs : List Rw, cs = [.slice a fs.length c] ∧ Rws w a fs ∧ fs.length ≤ maxLen := by
  rcases Deep.open_slice Tryd.underlying91 h with ⟨rfl, -⟩ | ⟨a, len, cap, m, n, D, Pl, rfl, -, hl, hm, hmm, -, hx⟩
  · exact ⟨none, 0, [], rfl, fun i s hi => by simp at hi, by simp⟩
  have hlm : len ≤ m := by rw [hmm]; split <;> omega
  have each : ∀ i, i < len → ∃ b : Rw, ∃ k o, a = ⟨k, o, none⟩ ∧ RwAt w k (o + i * 2) b := fun i hi => by
    obtain ⟨cs', h1, h2⟩ := hx i (by omega)
    rw [Tryd.cellsLawRw] at h1
    obtain ⟨f, rfl⟩ := oneRow_of h2
    obtain ⟨_, _, hcell⟩ := World.cells?_some h1
    obtain ⟨cs0, g1, g2⟩ := hx 0 (by omega)
    rw [Tryd.cellsLawRw] at g1
    obtain ⟨_, rfl⟩ := oneRow_of g2
    obtain ⟨_, _, gcell⟩ := World.cells?_some g1
    obtain ⟨k, off, spot⟩ := a
    have hspot : spot = none := by simpa [Addr.add] using World.cell?_spot (gcell 0 (by omega))
    subst hspot
    have at_ : ∀ j, (Addr.add ⟨k, off, none⟩ (i * 2)).add j = ⟨k, off + i * 2 + j, none⟩ := fun j => by rw [add_plain, add_plain]
    refine ⟨f, k, off, rfl, ?_, ?_⟩
    · simpa [at_] using hcell 0 (by omega)
    · simpa [at_] using hcell 1 (by omega)
  haveI : Inhabited Rw := ⟨⟨0, 0⟩⟩
  obtain ⟨B, hB⟩ := Deep.choose_lt each
  refine ⟨some a, cap, (List.range len).map B, by simp, fun i b hi => ?_, by simp; omega⟩
  simp only [List.getElem?_map, Option.map_eq_some_iff] at hi
  obtain ⟨j, hj, rfl⟩ := hi
  obtain ⟨hlt, e⟩ := List.getElem?_eq_some_iff.1 hj
  simp at hlt e
  subst e
  obtain ⟨k, o, rfl, hb⟩ := hB i hlt
  exact ⟨k, o, rfl, hb⟩

set_option maxRecDepth 100000 in
theorem oneReplica_of {fuel : Nat} {cs : List Value} {x : DataW H × List MemPlace} (h : DataW.trod enc Tryd.prog w base spare held fuel 93 cs = some x) :
    ∃ (f : Rp) (r0 : Option Addr) (k0 : Nat), cs = [.slice r0 f.log.length k0, .int .i64 f.epoch, .int .i64 f.known] ∧ Rws w r0 f.log ∧ f.log.length ≤ maxLen := by
  obtain ⟨xs, n, -, -, hl, hlen, hf⟩ := DataW.trod_struct Tryd.underlying93 h
  rw [Tryd.cellsLawRp] at hl
  match cs, hl, xs, hlen with
  | [c0, c1, c2], _, [y0, y1, y2], _ =>
    have h0 := hf 0 _ rfl
    have h1 := hf 1 _ rfl
    have h2 := hf 2 _ rfl
    simp [Tryd.cellsInt, Tryd.cellsLawRws] at h0 h1 h2
    obtain ⟨r0, k0, s0, e0, x0, m0⟩ := allRow_of h0
    obtain ⟨s1, e1, -, -⟩ := DataW.trod_int Tryd.underlying3 h1
    obtain ⟨s2, e2, -, -⟩ := DataW.trod_int Tryd.underlying3 h2
    simp at e0 e1 e2
    subst e0 e1 e2
    exact ⟨⟨s0, s1, s2⟩, r0, k0, rfl, x0, m0⟩

set_option maxRecDepth 100000 in
theorem allReplica_of {fuel : Nat} {cs : List Value} {x : DataW H × List MemPlace} (h : DataW.trod enc Tryd.prog w base spare held fuel 31 cs = some x) :
    ∃ a c, ∃ fs : List Rp, cs = [.slice a fs.length c] ∧ Rps w a fs ∧ fs.length ≤ maxLen := by
  rcases Deep.open_slice Tryd.underlying31 h with ⟨rfl, -⟩ | ⟨a, len, cap, m, n, D, Pl, rfl, -, hl, hm, hmm, -, hx⟩
  · exact ⟨none, 0, [], rfl, fun i s hi => by simp at hi, by simp⟩
  have hlm : len ≤ m := by rw [hmm]; split <;> omega
  have each : ∀ i, i < len → ∃ b : Rp, ∃ k o, a = ⟨k, o, none⟩ ∧ RpAt w k (o + i * 3) b := fun i hi => by
    obtain ⟨cs', h1, h2⟩ := hx i (by omega)
    rw [Tryd.cellsLawRp] at h1
    obtain ⟨f, r0, k0, rfl, x0, m0⟩ := oneReplica_of h2
    obtain ⟨_, _, hcell⟩ := World.cells?_some h1
    obtain ⟨cs0, g1, g2⟩ := hx 0 (by omega)
    rw [Tryd.cellsLawRp] at g1
    obtain ⟨_, _, _, rfl, -, -⟩ := oneReplica_of g2
    obtain ⟨_, _, gcell⟩ := World.cells?_some g1
    obtain ⟨k, off, spot⟩ := a
    have hspot : spot = none := by simpa [Addr.add] using World.cell?_spot (gcell 0 (by omega))
    subst hspot
    have at_ : ∀ j, (Addr.add ⟨k, off, none⟩ (i * 3)).add j = ⟨k, off + i * 3 + j, none⟩ := fun j => by rw [add_plain, add_plain]
    refine ⟨f, k, off, rfl, r0, k0, ?_, ?_, ?_, x0, m0⟩
    · simpa [at_] using hcell 0 (by omega)
    · simpa [at_] using hcell 1 (by omega)
    · simpa [at_] using hcell 2 (by omega)
  haveI : Inhabited Rp := ⟨⟨[], 0, 0⟩⟩
  obtain ⟨B, hB⟩ := Deep.choose_lt each
  refine ⟨some a, cap, (List.range len).map B, by simp, fun i b hi => ?_, by simp; omega⟩
  simp only [List.getElem?_map, Option.map_eq_some_iff] at hi
  obtain ⟨j, hj, rfl⟩ := hi
  obtain ⟨hlt, e⟩ := List.getElem?_eq_some_iff.1 hj
  simp at hlt e
  subst e
  obtain ⟨k, o, rfl, hb⟩ := hB i hlt
  exact ⟨k, o, rfl, hb⟩

end
end Go.Proofs.YtkhbgdnhkaeamaaDoor

namespace Go.Proofs.YtkhbgdnhkaeamaaDoor
open Go.ChangeShapes Go.WideShapes Go.ChangeAt Go.RowKit

theorem Tryd.cellsLawGr : Tryd.prog.cellsOf 33 = 5 := by kernel_rfl

section
variable {H : Type} {enc : TypeId × Value → H} {w : World} {base : Nat} {spare : Nat → Bool} {held : Bool}

set_option maxRecDepth 100000 in
theorem topGroup_of {fuel : Nat} {cs : List Value} {x : DataW H × List MemPlace} (h : DataW.trod enc Tryd.prog w base spare held fuel 33 cs = some x) :
    ∃ (s : Gr) (a0 : Option Addr) (c0 : Nat) (a1 : Option Addr) (c1 : Nat), cs = [.int .i64 s.epoch, .int .i64 s.leader, .slice a0 s.steps.length c0, .int .i64 s.high, .slice a1 s.reps.length c1] ∧ GrR w s a0 a1 ∧ GrL s := by
  obtain ⟨xs, n, -, -, hl, hlen, hf⟩ := DataW.trod_struct Tryd.underlying33 h
  rw [Tryd.cellsLawGr] at hl
  match cs, hl, xs, hlen with
  | [c0, c1, c2, c3, c4], _, [y0, y1, y2, y3, y4], _ =>
    have h0 := hf 0 _ rfl
    have h1 := hf 1 _ rfl
    have h2 := hf 2 _ rfl
    have h3 := hf 3 _ rfl
    have h4 := hf 4 _ rfl
    simp [Tryd.cellsInt, Tryd.cellsInts, Tryd.cellsLawRps] at h0 h1 h2 h3 h4
    obtain ⟨s0, e0, -, -⟩ := DataW.trod_int Tryd.underlying3 h0
    obtain ⟨s1, e1, -, -⟩ := DataW.trod_int Tryd.underlying3 h1
    obtain ⟨r2, k2, s2, e2, x2, m2⟩ := ints_of h2
    obtain ⟨s3, e3, -, -⟩ := DataW.trod_int Tryd.underlying3 h3
    obtain ⟨r4, k4, s4, e4, x4, m4⟩ := allReplica_of h4
    simp at e0 e1 e2 e3 e4
    subst e0 e1 e2 e3 e4
    exact ⟨⟨s0, s1, s2, s3, s4⟩, r2, k2, r4, k4, rfl, ⟨x2, x4⟩, ⟨m2, m4⟩⟩

end
end Go.Proofs.YtkhbgdnhkaeamaaDoor
