/-
  How lists of structs that came in read. Made by mkbagopen.py.
-/
import Derived.Test.YtekjpbfmiebigaaDoorOpenEp
import Derived.Test.YtekjpbfmiebigaaDoorNde
namespace Go.Proofs.YtekjpbfmiebigaaDoor
open Go.ChangeShapes Go.WideShapes Go.ChangeAt Go.RowKit

theorem Tryd.cellsBool : Tryd.prog.cellsOf 4 = 1 := by kernel_rfl

theorem Tryd.cellsInts : Tryd.prog.cellsOf 22 = 1 := by kernel_rfl

theorem Tryd.cellsLawRw : Tryd.prog.cellsOf 90 = 2 := by kernel_rfl

theorem Tryd.cellsLawRws : Tryd.prog.cellsOf 36 = 1 := by kernel_rfl

theorem Tryd.cellsLawVw : Tryd.prog.cellsOf 34 = 3 := by kernel_rfl

theorem Tryd.cellsLawNd : Tryd.prog.cellsOf 84 = 6 := by kernel_rfl

theorem Tryd.cellsLawNds : Tryd.prog.cellsOf 35 = 1 := by kernel_rfl

section
variable {H : Type} {enc : TypeId × Value → H} {w : World} {base : Nat} {spare : Nat → Bool} {held : Bool}

set_option maxRecDepth 100000 in
theorem oneRow_of {fuel : Nat} {cs : List Value} {x : DataW H × List MemPlace} (h : DataW.trod enc Tryd.prog w base spare held fuel 90 cs = some x) :
    ∃ (f : Rw), cs = [.int .i64 f.epoch, .int .i64 f.val] := by
  obtain ⟨xs, n, -, -, hl, hlen, hf⟩ := DataW.trod_struct Tryd.underlying90 h
  rw [Tryd.cellsLawRw] at hl
  match cs, hl, xs, hlen with
  | [c0, c1], _, [y0, y1], _ =>
    have h0 := hf 0 _ rfl
    have h1 := hf 1 _ rfl
    simp [Tryd.cellsInt] at h0 h1
    obtain ⟨s0, e0, -, -⟩ := DataW.trod_int Tryd.underlying3 h0
    obtain ⟨s1, e1, -, -⟩ := DataW.trod_int Tryd.underlying3 h1
    simp at e0 e1
    subst e0 e1
    exact ⟨⟨s0, s1⟩, rfl⟩

set_option maxRecDepth 100000 in
theorem allRow_of {fuel : Nat} {cs : List Value} {x : DataW H × List MemPlace} (h : DataW.trod enc Tryd.prog w base spare held fuel 36 cs = some x) :
    ∃ a c, ∃ fs : List Rw, cs = [.slice a fs.length c] ∧ Rws w a fs ∧ fs.length ≤ maxLen := by
  rcases Deep.open_slice Tryd.underlying36 h with ⟨rfl, -⟩ | ⟨a, len, cap, m, n, D, Pl, rfl, -, hl, hm, hmm, -, hx⟩
  · exact ⟨none, 0, [], rfl, fun i s hi => by simp at hi, by simp⟩
  have hlm : len ≤ m := by rw [hmm]; split <;> omega
  have each : ∀ i, i < len → ∃ b : Rw, ∃ k o, a = ⟨k, o, none⟩ ∧ RwAt w k (o + i * 2) b := fun i hi => by
    obtain ⟨cs', h1, h2⟩ := hx i (by omega)
    rw [Tryd.cellsLawRw] at h1
    obtain ⟨f, rfl⟩ := oneRow_of h2
    obtain ⟨_, _, hcell⟩ := World.cells?_some h1
    obtain ⟨cs0, g1, g2⟩ := hx 0 (by omega)
    rw [Tryd.cellsLawRw] at g1
    obtain ⟨_, rfl⟩ := oneRow_of g2
    obtain ⟨_, _, gcell⟩ := World.cells?_some g1
    obtain ⟨k, off, spot⟩ := a
    have hspot : spot = none := by simpa [Addr.add] using World.cell?_spot (gcell 0 (by omega))
    subst hspot
    have at_ : ∀ j, (Addr.add ⟨k, off, none⟩ (i * 2)).add j = ⟨k, off + i * 2 + j, none⟩ := fun j => by rw [add_plain, add_plain]
    refine ⟨f, k, off, rfl, ?_, ?_⟩
    · simpa [at_] using hcell 0 (by omega)
    · simpa [at_] using hcell 1 (by omega)
  haveI : Inhabited Rw := ⟨⟨0, 0⟩⟩
  obtain ⟨B, hB⟩ := Deep.choose_lt each
  refine ⟨some a, cap, (List.range len).map B, by simp, fun i b hi => ?_, by simp; omega⟩
  simp only [List.getElem?_map, Option.map_eq_some_iff] at hi
  obtain ⟨j, hj, rfl⟩ := hi
  obtain ⟨hlt, e⟩ := List.getElem?_eq_some_iff.1 hj
  simp at hlt e
  subst e
  obtain ⟨k, o, rfl, hb⟩ := hB i hlt
  exact ⟨k, o, rfl, hb⟩

set_option maxRecDepth 100000 in
theorem oneView_of {fuel : Nat} {cs : List Value} {x : DataW H × List MemPlace} (h : DataW.trod enc Tryd.prog w base spare held fuel 34 cs = some x) :
    ∃ (f : Vw) (r2 : Option Addr) (k2 : Nat), cs = [.int .i64 f.epoch, .int .i64 f.leader, .slice r2 f.steps.length k2] ∧ Ints w r2 f.steps ∧ f.steps.length ≤ maxLen := by
  obtain ⟨xs, n, -, -, hl, hlen, hf⟩ := DataW.trod_struct Tryd.underlying34 h
  rw [Tryd.cellsLawVw] at hl
  match cs, hl, xs, hlen with
  | [c0, c1, c2], _, [y0, y1, y2], _ =>
    have h0 := hf 0 _ rfl
    have h1 := hf 1 _ rfl
    have h2 := hf 2 _ rfl
    simp [Tryd.cellsInt, Tryd.cellsInts] at h0 h1 h2
    obtain ⟨s0, e0, -, -⟩ := DataW.trod_int Tryd.underlying3 h0
    obtain ⟨s1, e1, -, -⟩ := DataW.trod_int Tryd.underlying3 h1
    obtain ⟨r2, k2, s2, e2, x2, m2⟩ := ints_of h2
    simp at e0 e1 e2
    subst e0 e1 e2
    exact ⟨⟨s0, s1, s2⟩, r2, k2, rfl, x2, m2⟩

set_option maxRecDepth 100000 in
theorem oneNode_of {fuel : Nat} {cs : List Value} {x : DataW H × List MemPlace} (h : DataW.trod enc Tryd.prog w base spare held fuel 84 cs = some x) :
    ∃ (f : Nd) (r2 : Option Addr) (k2 : Nat) (r3 : Option Addr) (k3 : Nat) (r4 : Option Addr) (k4 : Nat), cs = [.int .i64 f.epoch, .int .i64 f.leader, .slice r2 f.steps.length k2, .slice r3 f.log.length k3, .slice r4 f.known.length k4, .int .i64 f.told] ∧ Ints w r2 f.steps ∧ f.steps.length ≤ maxLen ∧ Rws w r3 f.log ∧ f.log.length ≤ maxLen ∧ Ints w r4 f.known ∧ f.known.length ≤ maxLen := by
  obtain ⟨xs, n, -, -, hl, hlen, hf⟩ := DataW.trod_struct Tryd.underlying84 h
  rw [Tryd.cellsLawNd] at hl
  match cs, hl, xs, hlen with
  | [c0, c1, c2, c3, c4, c5], _, [y0, y1, y2, y3], _ =>
    have h0 := hf 0 _ rfl
    have h1 := hf 1 _ rfl
    have h2 := hf 2 _ rfl
    have h3 := hf 3 _ rfl
    simp [Tryd.cellsLawVw, Tryd.cellsInt, Tryd.cellsInts, Tryd.cellsLawRws] at h0 h1 h2 h3
    obtain ⟨v, r2, k2, e2, x2, m2⟩ := oneView_of h0
    obtain ⟨r3, k3, s3, e3, x3, m3⟩ := allRow_of h1
    obtain ⟨r4, k4, s4, e4, x4, m4⟩ := ints_of h2
    obtain ⟨s5, e5, -, -⟩ := DataW.trod_int Tryd.underlying3 h3
    simp at e2 e3 e4 e5
    obtain ⟨rfl, rfl, rfl⟩ := e2
    subst e3 e4 e5
    exact ⟨⟨v.epoch, v.leader, v.steps, s3, s4, s5⟩, r2, k2, r3, k3, r4, k4, rfl, x2, m2, x3, m3, x4, m4⟩

set_option maxRecDepth 100000 in
theorem allNode_of {fuel : Nat} {cs : List Value} {x : DataW H × List MemPlace} (h : DataW.trod enc Tryd.prog w base spare held fuel 35 cs = some x) :
    ∃ a c, ∃ fs : List Nd, cs = [.slice a fs.length c] ∧ Nds w a fs ∧ fs.length ≤ maxLen := by
  rcases Deep.open_slice Tryd.underlying35 h with ⟨rfl, -⟩ | ⟨a, len, cap, m, n, D, Pl, rfl, -, hl, hm, hmm, -, hx⟩
  · exact ⟨none, 0, [], rfl, fun i s hi => by simp at hi, by simp⟩
  have hlm : len ≤ m := by rw [hmm]; split <;> omega
  have each : ∀ i, i < len → ∃ b : Nd, ∃ k o, a = ⟨k, o, none⟩ ∧ NdAt w k (o + i * 6) b := fun i hi => by
    obtain ⟨cs', h1, h2⟩ := hx i (by omega)
    rw [Tryd.cellsLawNd] at h1
    obtain ⟨f, r2, k2, r3, k3, r4, k4, rfl, x2, m2, x3, m3, x4, m4⟩ := oneNode_of h2
    obtain ⟨_, _, hcell⟩ := World.cells?_some h1
    obtain ⟨cs0, g1, g2⟩ := hx 0 (by omega)
    rw [Tryd.cellsLawNd] at g1
    obtain ⟨_, _, _, _, _, _, _, rfl, -, -, -, -, -, -⟩ := oneNode_of g2
    obtain ⟨_, _, gcell⟩ := World.cells?_some g1
    obtain ⟨k, off, spot⟩ := a
    have hspot : spot = none := by simpa [Addr.add] using World.cell?_spot (gcell 0 (by omega))
    subst hspot
    have at_ : ∀ j, (Addr.add ⟨k, off, none⟩ (i * 6)).add j = ⟨k, off + i * 6 + j, none⟩ := fun j => by rw [add_plain, add_plain]
    refine ⟨f, k, off, rfl, r2, k2, r3, k3, r4, k4, ?_, ?_, ?_, ?_, ?_, ?_, x2, m2, x3, m3, x4, m4⟩
    · simpa [at_] using hcell 0 (by omega)
    · simpa [at_] using hcell 1 (by omega)
    · simpa [at_] using hcell 2 (by omega)
    · simpa [at_] using hcell 3 (by omega)
    · simpa [at_] using hcell 4 (by omega)
    · simpa [at_] using hcell 5 (by omega)
  haveI : Inhabited Nd := ⟨⟨0, 0, [], [], [], 0⟩⟩
  obtain ⟨B, hB⟩ := Deep.choose_lt each
  refine ⟨some a, cap, (List.range len).map B, by simp, fun i b hi => ?_, by simp; omega⟩
  simp only [List.getElem?_map, Option.map_eq_some_iff] at hi
  obtain ⟨j, hj, rfl⟩ := hi
  obtain ⟨hlt, e⟩ := List.getElem?_eq_some_iff.1 hj
  simp at hlt e
  subst e
  obtain ⟨k, o, rfl, hb⟩ := hB i hlt
  exact ⟨k, o, rfl, hb⟩

end
end Go.Proofs.YtekjpbfmiebigaaDoor
