/-
  How lists of structs that came in read. Made by mkbagopen.py.
-/
import Derived.Test.YtfehndedkffpfaaDoorOpenEp
import Derived.Test.YtfehndedkffpfaaDoorBrk
import Derived.Test.YtfehndedkffpfaaDoorPrn
namespace Go.Proofs.YtfehndedkffpfaaDoor
open Go.ChangeShapes Go.WideShapes Go.ChangeAt Go.RowKit

theorem Tryd.cellsBool : Tryd.prog.cellsOf 4 = 1 := by kernel_rfl

theorem Tryd.cellsInts : Tryd.prog.cellsOf 27 = 1 := by kernel_rfl

theorem Tryd.cellsLawBr : Tryd.prog.cellsOf 64 = 3 := by kernel_rfl

theorem Tryd.cellsLawBrs : Tryd.prog.cellsOf 22 = 1 := by kernel_rfl

theorem Tryd.cellsLawPn : Tryd.prog.cellsOf 59 = 5 := by kernel_rfl

theorem Tryd.cellsLawPns : Tryd.prog.cellsOf 23 = 1 := by kernel_rfl

section
variable {H : Type} {enc : TypeId × Value → H} {w : World} {base : Nat} {spare : Nat → Bool} {held : Bool}

set_option maxRecDepth 100000 in
theorem oneBroker_of {fuel : Nat} {cs : List Value} {x : DataW H × List MemPlace} (h : DataW.trod enc Tryd.prog w base spare held fuel 64 cs = some x) :
    ∃ (f : Br), cs = [.int .i64 f.epoch, .int .i64 f.left, .bool f.fenced] := by
  obtain ⟨xs, n, -, -, hl, hlen, hf⟩ := DataW.trod_struct Tryd.underlying64 h
  rw [Tryd.cellsLawBr] at hl
  match cs, hl, xs, hlen with
  | [c0, c1, c2], _, [y0, y1, y2], _ =>
    have h0 := hf 0 _ rfl
    have h1 := hf 1 _ rfl
    have h2 := hf 2 _ rfl
    simp [Tryd.cellsInt, Tryd.cellsBool] at h0 h1 h2
    obtain ⟨s0, e0, -, -⟩ := DataW.trod_int Tryd.underlying3 h0
    obtain ⟨s1, e1, -, -⟩ := DataW.trod_int Tryd.underlying3 h1
    obtain ⟨s2, e2, -⟩ := DataW.trod_bool Tryd.underlying4 h2
    simp at e0 e1 e2
    subst e0 e1 e2
    exact ⟨⟨s0, s1, s2⟩, rfl⟩

set_option maxRecDepth 100000 in
theorem allBroker_of {fuel : Nat} {cs : List Value} {x : DataW H × List MemPlace} (h : DataW.trod enc Tryd.prog w base spare held fuel 22 cs = some x) :
    ∃ a c, ∃ fs : List Br, cs = [.slice a fs.length c] ∧ Brs w a fs ∧ fs.length ≤ maxLen := by
  rcases Deep.open_slice Tryd.underlying22 h with ⟨rfl, -⟩ | ⟨a, len, cap, m, n, D, Pl, rfl, -, hl, hm, hmm, -, hx⟩
  · exact ⟨none, 0, [], rfl, fun i s hi => by simp at hi, by simp⟩
  have hlm : len ≤ m := by rw [hmm]; split <;> omega
  have each : ∀ i, i < len → ∃ b : Br, ∃ k o, a = ⟨k, o, none⟩ ∧ BrAt w k (o + i * 3) b := fun i hi => by
    obtain ⟨cs', h1, h2⟩ := hx i (by omega)
    rw [Tryd.cellsLawBr] at h1
    obtain ⟨f, rfl⟩ := oneBroker_of h2
    obtain ⟨_, _, hcell⟩ := World.cells?_some h1
    obtain ⟨cs0, g1, g2⟩ := hx 0 (by omega)
    rw [Tryd.cellsLawBr] at g1
    obtain ⟨_, rfl⟩ := oneBroker_of g2
    obtain ⟨_, _, gcell⟩ := World.cells?_some g1
    obtain ⟨k, off, spot⟩ := a
    have hspot : spot = none := by simpa [Addr.add] using World.cell?_spot (gcell 0 (by omega))
    subst hspot
    have at_ : ∀ j, (Addr.add ⟨k, off, none⟩ (i * 3)).add j = ⟨k, off + i * 3 + j, none⟩ := fun j => by rw [add_plain, add_plain]
    refine ⟨f, k, off, rfl, ?_, ?_, ?_⟩
    · simpa [at_] using hcell 0 (by omega)
    · simpa [at_] using hcell 1 (by omega)
    · simpa [at_] using hcell 2 (by omega)
  haveI : Inhabited Br := ⟨⟨0, 0, false⟩⟩
  obtain ⟨B, hB⟩ := Deep.choose_lt each
  refine ⟨some a, cap, (List.range len).map B, by simp, fun i b hi => ?_, by simp; omega⟩
  simp only [List.getElem?_map, Option.map_eq_some_iff] at hi
  obtain ⟨j, hj, rfl⟩ := hi
  obtain ⟨hlt, e⟩ := List.getElem?_eq_some_iff.1 hj
  simp at hlt e
  subst e
  obtain ⟨k, o, rfl, hb⟩ := hB i hlt
  exact ⟨k, o, rfl, hb⟩

set_option maxRecDepth 100000 in
theorem onePartition_of {fuel : Nat} {cs : List Value} {x : DataW H × List MemPlace} (h : DataW.trod enc Tryd.prog w base spare held fuel 59 cs = some x) :
    ∃ (f : Pn) (r0 : Option Addr) (k0 : Nat) (r1 : Option Addr) (k1 : Nat), cs = [.slice r0 f.homes.length k0, .slice r1 f.steps.length k1, .int .i64 f.leader, .int .i64 f.epoch, .int .i64 f.stamp] ∧ Ints w r0 f.homes ∧ f.homes.length ≤ maxLen ∧ Ints w r1 f.steps ∧ f.steps.length ≤ maxLen := by
  obtain ⟨xs, n, -, -, hl, hlen, hf⟩ := DataW.trod_struct Tryd.underlying59 h
  rw [Tryd.cellsLawPn] at hl
  match cs, hl, xs, hlen with
  | [c0, c1, c2, c3, c4], _, [y0, y1, y2, y3, y4], _ =>
    have h0 := hf 0 _ rfl
    have h1 := hf 1 _ rfl
    have h2 := hf 2 _ rfl
    have h3 := hf 3 _ rfl
    have h4 := hf 4 _ rfl
    simp [Tryd.cellsInt, Tryd.cellsInts] at h0 h1 h2 h3 h4
    obtain ⟨r0, k0, s0, e0, x0, m0⟩ := ints_of h0
    obtain ⟨r1, k1, s1, e1, x1, m1⟩ := ints_of h1
    obtain ⟨s2, e2, -, -⟩ := DataW.trod_int Tryd.underlying3 h2
    obtain ⟨s3, e3, -, -⟩ := DataW.trod_int Tryd.underlying3 h3
    obtain ⟨s4, e4, -, -⟩ := DataW.trod_int Tryd.underlying3 h4
    simp at e0 e1 e2 e3 e4
    subst e0 e1 e2 e3 e4
    exact ⟨⟨s0, s1, s2, s3, s4⟩, r0, k0, r1, k1, rfl, x0, m0, x1, m1⟩

set_option maxRecDepth 100000 in
theorem allPartition_of {fuel : Nat} {cs : List Value} {x : DataW H × List MemPlace} (h : DataW.trod enc Tryd.prog w base spare held fuel 23 cs = some x) :
    ∃ a c, ∃ fs : List Pn, cs = [.slice a fs.length c] ∧ Pns w a fs ∧ fs.length ≤ maxLen := by
  rcases Deep.open_slice Tryd.underlying23 h with ⟨rfl, -⟩ | ⟨a, len, cap, m, n, D, Pl, rfl, -, hl, hm, hmm, -, hx⟩
  · exact ⟨none, 0, [], rfl, fun i s hi => by simp at hi, by simp⟩
  have hlm : len ≤ m := by rw [hmm]; split <;> omega
  have each : ∀ i, i < len → ∃ b : Pn, ∃ k o, a = ⟨k, o, none⟩ ∧ PnAt w k (o + i * 5) b := fun i hi => by
    obtain ⟨cs', h1, h2⟩ := hx i (by omega)
    rw [Tryd.cellsLawPn] at h1
    obtain ⟨f, r0, k0, r1, k1, rfl, x0, m0, x1, m1⟩ := onePartition_of h2
    obtain ⟨_, _, hcell⟩ := World.cells?_some h1
    obtain ⟨cs0, g1, g2⟩ := hx 0 (by omega)
    rw [Tryd.cellsLawPn] at g1
    obtain ⟨_, _, _, _, _, rfl, -, -, -, -⟩ := onePartition_of g2
    obtain ⟨_, _, gcell⟩ := World.cells?_some g1
    obtain ⟨k, off, spot⟩ := a
    have hspot : spot = none := by simpa [Addr.add] using World.cell?_spot (gcell 0 (by omega))
    subst hspot
    have at_ : ∀ j, (Addr.add ⟨k, off, none⟩ (i * 5)).add j = ⟨k, off + i * 5 + j, none⟩ := fun j => by rw [add_plain, add_plain]
    refine ⟨f, k, off, rfl, r0, k0, r1, k1, ?_, ?_, ?_, ?_, ?_, x0, m0, x1, m1⟩
    · simpa [at_] using hcell 0 (by omega)
    · simpa [at_] using hcell 1 (by omega)
    · simpa [at_] using hcell 2 (by omega)
    · simpa [at_] using hcell 3 (by omega)
    · simpa [at_] using hcell 4 (by omega)
  haveI : Inhabited Pn := ⟨⟨[], [], 0, 0, 0⟩⟩
  obtain ⟨B, hB⟩ := Deep.choose_lt each
  refine ⟨some a, cap, (List.range len).map B, by simp, fun i b hi => ?_, by simp; omega⟩
  simp only [List.getElem?_map, Option.map_eq_some_iff] at hi
  obtain ⟨j, hj, rfl⟩ := hi
  obtain ⟨hlt, e⟩ := List.getElem?_eq_some_iff.1 hj
  simp at hlt e
  subst e
  obtain ⟨k, o, rfl, hb⟩ := hB i hlt
  exact ⟨k, o, rfl, hb⟩

end
end Go.Proofs.YtfehndedkffpfaaDoor
