/-
  A drawn log, the walk of spec.(*l1Cur).entries.
-/
import Derived.Test.YtdibddkhjefmlaaDoorCurE
namespace Go.Proofs.YtdibddkhjefmlaaDoor
open Go.RowKit

theorem en_store {w wr : World} {p : Nat} {a : Option Addr} {bs : List UInt8} {c z g cap x : Nat} {zs : List Int} {y : Int} (h : EnSt w wr p a bs c (.slice (some ⟨g, 0, none⟩) zs.length cap) zs z) (hp : p < w.heap.size) :
    EnSt w (wr.setCell ⟨g, x, none⟩ (.int .i64 y)) p a bs c (.slice (some ⟨g, 0, none⟩) zs.length cap) (zs.set x y) z := by
  obtain ⟨h1, h2⟩ := h.own.stored x (.int .i64 y)
  have hs := h.far.bel.size
  have hg := (h.own.lt g rfl).1
  have hB : Below w.heap.size wr (wr.setCell ⟨g, x, none⟩ (.int .i64 y)) := (Below.refl _ _).setCell hg _
  obtain ⟨z', k1, k2⟩ := h.cur
  refine ⟨?_, ⟨z', k1, ?_⟩, ?_⟩
  · rw [List.length_set]
    have e : zCells (zs.set x y) = (zCells zs).set x (.int .i64 y) := by simp [zCells, List.map_set]
    rw [e]; exact h1
  · have hb := hB.block p hp
    obtain ⟨s, hs2⟩ := k2.c2
    exact ⟨(World.cell?_of_block (a := ⟨p, 0, none⟩) hb).trans k2.c0, (World.cell?_of_block (a := ⟨p, 1, none⟩) hb).trans k2.c1, ⟨s, (World.cell?_of_block (a := ⟨p, 2, none⟩) hb).trans hs2⟩, fun i => (World.frozen?_of_block (a := ⟨p, i, none⟩) hb).trans (k2.f i), k2.by_.of_block (fun b hi => hB.block b (by have := k2.lo b hi; omega)), k2.lo, k2.sm⟩
  · exact ⟨h.far.bel.trans (hB.mono (by omega)), fun b hb hne => (hB.block b hb).trans (h.far.blk b hb hne)⟩

theorem ints_lit (w : World) (zs : List Int) (t : TypeId) : Ints (w.alloc (.cells (zCells zs).toArray t)) (some ⟨w.heap.size, 0, none⟩) zs := fun i z hi => by
  refine ⟨w.heap.size, 0, rfl, ?_⟩
  rw [cell_of_row _ _ _ _ t (0, 0) (heap_alloc_new w _), Nat.zero_add]
  simpa using zCells_get hi

end Go.Proofs.YtdibddkhjefmlaaDoor
