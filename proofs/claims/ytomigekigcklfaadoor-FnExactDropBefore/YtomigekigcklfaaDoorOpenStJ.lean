/-
  The walk of the law FnExactGoodStore: at every store that can be read it answers true and leaves what was there as it was.
  How a store that came in reads.
-/
import Derived.Test.YtomigekigcklfaaDoorAllI
import Derived.Test.YtomigekigcklfaaDoorGsSpec
import Derived.Test.YtomigekigcklfaaDoorSgs3
import Derived.Test.YtomigekigcklfaaDoorCardJ
import Derived.Test.YtomigekigcklfaaDoorSgs2J
namespace Go.Proofs.YtomigekigcklfaaDoor
open Go.RowKit

theorem Below.stepS {W a b : World} (h : Below W.heap.size W a) (k : Below a.heap.size a b) : Below W.heap.size W b := h.trans (k.mono h.size)

theorem szSg_bound {g : Sg} {left : Int} (h : 0 ≤ szSg g left) : (g.bytes.size : Int) ≤ left ∧ (g.idx.length : Int) ≤ left ∧ szSg g left ≤ left := by
  unfold szSg at h ⊢
  split at h
  · omega
  · rename_i hn
    rw [if_neg hn]
    unfold szIm at h ⊢
    split at h
    · omega
    · rename_i h2
      rw [if_neg h2]
      omega

theorem szSgS_bound : ∀ {gs : List Sg} {left : Int}, 0 ≤ szSgS gs left → ∀ g, g ∈ gs → (g.bytes.size : Int) ≤ left ∧ (g.idx.length : Int) ≤ left
  | [], left, _, g, hg => by cases hg
  | x :: r, left, h, g, hg => by
    rw [szSgS] at h
    split at h
    · omega
    · rename_i hn
      have hb := szSg_bound (g := x) (left := left) (by omega)
      rcases List.mem_cons.1 hg with rfl | hg
      · exact ⟨hb.1, hb.2.1⟩
      · have := szSgS_bound h g hg
        omega

theorem szSt_bound {gs : List Sg} {left : Int} (h : 0 ≤ szSt gs left) : (gs.length : Int) ≤ left ∧ ∀ g, g ∈ gs → (g.bytes.size : Int) ≤ left ∧ (g.idx.length : Int) ≤ left := by
  unfold szSt at h
  split at h
  · omega
  · refine ⟨by omega, fun g hg => ?_⟩
    have := szSgS_bound h g hg
    omega

end Go.Proofs.YtomigekigcklfaaDoor

namespace Go.Proofs.YtomigekigcklfaaDoor
open Go.ChangeShapes Go.WideShapes Go.ChangeAt Go.RowKit

theorem Tryd.cellsLawIms : Tryd.prog.cellsOf 67 = 1 := by kernel_rfl

theorem Tryd.cellsLawSeg : Tryd.prog.cellsOf 69 = 3 := by kernel_rfl

theorem Tryd.cellsLawSegs : Tryd.prog.cellsOf 22 = 1 := by kernel_rfl

theorem Tryd.cellsLawStore : Tryd.prog.cellsOf 24 = 2 := by kernel_rfl

theorem Tryd.cellsLawIm : Tryd.prog.cellsOf 110 = 2 := by kernel_rfl

section
variable {H : Type} {enc : TypeId × Value → H} {w : World} {base : Nat} {spare : Nat → Bool} {held : Bool}

set_option maxRecDepth 100000 in
theorem im_of {fuel : Nat} {cs : List Value} {x : DataW H × List MemPlace} (h : DataW.trod enc Tryd.prog w base spare held fuel 110 cs = some x) :
    ∃ f : Im, cs = [.int .i64 f.off, .int .i64 f.at_] := by
  obtain ⟨xs, n, -, -, hl, hlen, hf⟩ := DataW.trod_struct Tryd.underlying110 h
  rw [Tryd.cellsLawIm] at hl
  match cs, hl, xs, hlen with
  | [c0, c1], _, [y0, y1], _ =>
    have h0 := hf 0 _ rfl
    have h1 := hf 1 _ rfl
    simp [Tryd.cellsInt] at h0 h1
    obtain ⟨s, e0, -, -⟩ := DataW.trod_int Tryd.underlying3 h0
    obtain ⟨e, e1, -, -⟩ := DataW.trod_int Tryd.underlying3 h1
    simp at e0 e1
    subst e0 e1
    exact ⟨⟨s, e⟩, rfl⟩

set_option maxRecDepth 100000 in
theorem ims_of {fuel : Nat} {cs : List Value} {x : DataW H × List MemPlace} (h : DataW.trod enc Tryd.prog w base spare held fuel 67 cs = some x) :
    ∃ a c, ∃ fs : List Im, cs = [.slice a fs.length c] ∧ Ims w a fs ∧ fs.length ≤ maxLen := by
  rcases Deep.open_slice Tryd.underlying67 h with ⟨rfl, -⟩ | ⟨a, len, cap, m, n, D, Pl, rfl, -, hl, hm, hmm, -, hx⟩
  · exact ⟨none, 0, [], rfl, fun i s hi => by simp at hi, by simp⟩
  have hlm : len ≤ m := by rw [hmm]; split <;> omega
  have each : ∀ i, i < len → ∃ b : Im, ∃ k o, a = ⟨k, o, none⟩ ∧ ImAt w k (o + i * 2) b := fun i hi => by
    obtain ⟨cs', h1, h2⟩ := hx i (by omega)
    rw [Tryd.cellsLawIm] at h1
    obtain ⟨f, rfl⟩ := im_of h2
    obtain ⟨_, _, hcell⟩ := World.cells?_some h1
    obtain ⟨cs0, g1, g2⟩ := hx 0 (by omega)
    rw [Tryd.cellsLawIm] at g1
    obtain ⟨_, rfl⟩ := im_of g2
    obtain ⟨_, _, gcell⟩ := World.cells?_some g1
    obtain ⟨k, off, spot⟩ := a
    have hspot : spot = none := by simpa [Addr.add] using World.cell?_spot (gcell 0 (by omega))
    subst hspot
    have at_ : ∀ j, (Addr.add ⟨k, off, none⟩ (i * 2)).add j = ⟨k, off + i * 2 + j, none⟩ := fun j => by rw [add_plain, add_plain]
    refine ⟨f, k, off, rfl, ?_, ?_⟩
    · simpa [at_] using hcell 0 (by omega)
    · simpa [at_] using hcell 1 (by omega)
  haveI : Inhabited Im := ⟨⟨0, 0⟩⟩
  obtain ⟨B, hB⟩ := Deep.choose_lt each
  refine ⟨some a, cap, (List.range len).map B, by simp, fun i b hi => ?_, by simp; omega⟩
  simp only [List.getElem?_map, Option.map_eq_some_iff] at hi
  obtain ⟨j, hj, rfl⟩ := hi
  obtain ⟨hlt, e⟩ := List.getElem?_eq_some_iff.1 hj
  simp at hlt e
  subst e
  obtain ⟨k, o, rfl, hb⟩ := hB i hlt
  exact ⟨k, o, rfl, hb⟩


set_option maxRecDepth 100000 in
theorem seg_of {fuel : Nat} {cs : List Value} {x : DataW H × List MemPlace} (h : DataW.trod enc Tryd.prog w base spare held fuel 69 cs = some x) :
    ∃ (g : Sg) (ra : Option Addr) (rc : Nat), cs = [.int .i64 g.base, .string g.bytes, .slice ra g.idx.length rc] ∧ Ims w ra g.idx ∧ g.idx.length ≤ maxLen ∧ g.bytes.size ≤ maxLen := by
  obtain ⟨xs, n, -, -, hl, hlen, hf⟩ := DataW.trod_struct Tryd.underlying69 h
  rw [Tryd.cellsLawSeg] at hl
  match cs, hl, xs, hlen with
  | [c0, c1, c2], _, [y0, y1, y2], _ =>
    have h0 := hf 0 _ rfl
    have h1 := hf 1 _ rfl
    have h2 := hf 2 _ rfl
    simp [Tryd.cellsInt, Tryd.cellsString, Tryd.cellsLawIms] at h0 h1 h2
    obtain ⟨z, e0, -, -⟩ := DataW.trod_int Tryd.underlying3 h0
    obtain ⟨s, e1, -, hz⟩ := DataW.trod_string Tryd.underlying9 h1
    obtain ⟨a, c, fs, e2, hI, hL⟩ := ims_of h2
    simp at e0 e1 e2
    subst e0 e1 e2
    exact ⟨⟨z, s, fs⟩, a, c, rfl, hI, hL, hz⟩

set_option maxRecDepth 100000 in
theorem segs_of {fuel : Nat} {cs : List Value} {x : DataW H × List MemPlace} (h : DataW.trod enc Tryd.prog w base spare held fuel 22 cs = some x) :
    ∃ a c, ∃ gs : List Sg, cs = [.slice a gs.length c] ∧ Sgs w a gs ∧ gs.length ≤ maxLen := by
  rcases Deep.open_slice Tryd.underlying22 h with ⟨rfl, -⟩ | ⟨a, len, cap, m, n, D, Pl, rfl, -, hl, hm, hmm, -, hx⟩
  · exact ⟨none, 0, [], rfl, fun i s hi => by simp at hi, by simp⟩
  have hlm : len ≤ m := by rw [hmm]; split <;> omega
  have each : ∀ i, i < len → ∃ b : Sg, ∃ k o, a = ⟨k, o, none⟩ ∧ SgAt w k (o + i * 3) b := fun i hi => by
    obtain ⟨cs', h1, h2⟩ := hx i (by omega)
    rw [Tryd.cellsLawSeg] at h1
    obtain ⟨g, ra, rc, rfl, hI, hL, hz⟩ := seg_of h2
    obtain ⟨_, _, hcell⟩ := World.cells?_some h1
    obtain ⟨cs0, g1, g2⟩ := hx 0 (by omega)
    rw [Tryd.cellsLawSeg] at g1
    obtain ⟨_, _, _, rfl, -, -, -⟩ := seg_of g2
    obtain ⟨_, _, gcell⟩ := World.cells?_some g1
    obtain ⟨k, off, spot⟩ := a
    have hspot : spot = none := by simpa [Addr.add] using World.cell?_spot (gcell 0 (by omega))
    subst hspot
    have at_ : ∀ j, (Addr.add ⟨k, off, none⟩ (i * 3)).add j = ⟨k, off + i * 3 + j, none⟩ := fun j => by rw [add_plain, add_plain]
    refine ⟨g, k, off, rfl, ra, rc, ?_, ?_, ?_, hI, hL, hz⟩
    · simpa [at_] using hcell 0 (by omega)
    · simpa [at_] using hcell 1 (by omega)
    · simpa [at_] using hcell 2 (by omega)
  haveI : Inhabited Sg := ⟨⟨0, ByteArray.empty, []⟩⟩
  obtain ⟨B, hB⟩ := Deep.choose_lt each
  refine ⟨some a, cap, (List.range len).map B, by simp, fun i b hi => ?_, by simp; omega⟩
  simp only [List.getElem?_map, Option.map_eq_some_iff] at hi
  obtain ⟨j, hj, rfl⟩ := hi
  obtain ⟨hlt, e⟩ := List.getElem?_eq_some_iff.1 hj
  simp at hlt e
  subst e
  obtain ⟨k, o, rfl, hb⟩ := hB i hlt
  exact ⟨k, o, rfl, hb⟩

set_option maxRecDepth 100000 in
theorem store_of {fuel : Nat} {cs : List Value} {x : DataW H × List MemPlace} (h : DataW.trod enc Tryd.prog w base spare held fuel 24 cs = some x) :
    ∃ a c, ∃ gs : List Sg, ∃ z : Int, cs = [.slice a gs.length c, .int .i64 z] ∧ Sgs w a gs ∧ gs.length ≤ maxLen := by
  obtain ⟨xs, n, -, -, hl, hlen, hf⟩ := DataW.trod_struct Tryd.underlying24 h
  rw [Tryd.cellsLawStore] at hl
  match cs, hl, xs, hlen with
  | [c0, c1], _, [y0, y1], _ =>
    have h0 := hf 0 _ rfl
    have h1 := hf 1 _ rfl
    simp [Tryd.cellsInt, Tryd.cellsLawSegs] at h0 h1
    obtain ⟨a, c, gs, e0, hS, hL⟩ := segs_of h0
    obtain ⟨z, e1, -, -⟩ := DataW.trod_int Tryd.underlying3 h1
    simp at e0 e1
    subst e0 e1
    exact ⟨a, c, gs, z, rfl, hS, hL⟩

end
end Go.Proofs.YtomigekigcklfaaDoor
