/-
  A drawn log: spec.(*l1Cur).entries makes some list of numbers, in memory of its own.
  A drawn log, the walk of spec.(*l1Cur).entries.
-/
import Derived.Test.YtmbfdonefpegeaaDoorCur2
import Derived.Test.YtmbfdonefpegeaaDoorZCell
import Derived.Laws.OwnMore
namespace Go.Proofs.YtmbfdonefpegeaaDoor
open Go.RowKit

theorem owns_far {w w' : World} {B p : Nat} {e : TypeId} {size : Nat} {v : Value} {n : Nat} {xs : List Value} (h : w.ownsRow B e size v n xs) (hf : Far p w w') (hp : p < B) : w'.ownsRow B e size v n xs := by
  obtain ⟨h1, h2 | ⟨g, cap, cur, hv, hg, hh, r⟩⟩ := h
  · exact ⟨h1, .inl h2⟩
  · have hlt := (Array.getElem?_eq_some_iff.1 hh).1
    exact ⟨h1, .inr ⟨g, cap, cur, hv, hg, (hf.blk g hlt (by omega)).trans hh, r⟩⟩

/-- While a list is drawn. -/
structure EnSt (w wr : World) (p : Nat) (a : Option Addr) (bs : List UInt8) (c : Nat) (v : Value) (zs : List Int) (z : Nat) : Prop where
  own : wr.ownsRow w.heap.size 3 1 v zs.length (zCells zs)
  cur : ∃ z', z' ≤ z ∧ Cur wr p a bs c z'
  far : Far p w wr

theorem en_draw {w wr w' : World} {p : Nat} {a : Option Addr} {bs : List UInt8} {c z z0 : Nat} {v : Value} {zs : List Int} (h : EnSt w wr p a bs c v zs z) (hz : z0 ≤ z) (hp : p < w.heap.size) (hd : Drew wr p a bs c z0 w') : EnSt w w' p a bs c v zs (z + 2) := by
  obtain ⟨z', h1, h2, h3⟩ := hd
  exact ⟨owns_far h.own h3 hp, ⟨z', by omega, h2⟩, h.far.trans h3⟩

theorem en_below {w wr w' : World} {p : Nat} {a : Option Addr} {bs : List UInt8} {c z : Nat} {v : Value} {zs : List Int} (h : EnSt w wr p a bs c v zs z) (hp : p < w.heap.size) (hb : Below wr.heap.size wr w') : EnSt w w' p a bs c v zs z := by
  have hs := h.far.bel.size
  obtain ⟨z', h1, h2⟩ := h.cur
  exact ⟨ownsZ_below h.own hb, ⟨z', h1, h2.below hb⟩, h.far.trans (Far.of_below hb (by omega))⟩

/-- A row that the call owns grows: the cursor and what is below stay. -/
theorem en_grown {w wr w' : World} {p : Nat} {a : Option Addr} {bs : List UInt8} {c z g2 cap2 : Nat} {v : Value} {zs : List Int} {y : Int} (h : EnSt w wr p a bs c v zs z) (hp : p < w.heap.size) (hgrow : wr.grownBy w' v.ownBlock)
    (hown : w'.ownsRow w.heap.size 3 1 (.slice (some ⟨g2, 0, none⟩) (zs.length + 1) cap2) (zs.length + 1) (zCells zs ++ [.int .i64 y])) : EnSt w w' p a bs c (.slice (some ⟨g2, 0, none⟩) (zs.length + 1) cap2) (zs ++ [y]) z := by
  have hs := h.far.bel.size
  have hB : Below w.heap.size wr w' := (Below.refl _ _).grown hgrow (by omega) (fun k hk => (h.own.lt k hk).1)
  obtain ⟨z', h1, h2⟩ := h.cur
  refine ⟨?_, ⟨z', h1, ?_⟩, ?_⟩
  · rw [List.length_append, List.length_singleton, zCells_app]; exact hown
  · have hb := hB.block p hp
    obtain ⟨s, hs2⟩ := h2.c2
    exact ⟨(World.cell?_of_block (a := ⟨p, 0, none⟩) hb).trans h2.c0, (World.cell?_of_block (a := ⟨p, 1, none⟩) hb).trans h2.c1, ⟨s, (World.cell?_of_block (a := ⟨p, 2, none⟩) hb).trans hs2⟩, fun i => (World.frozen?_of_block (a := ⟨p, i, none⟩) hb).trans (h2.f i), h2.by_.of_block (fun b hi => hB.block b (by have := h2.lo b hi; omega)), h2.lo, h2.sm⟩
  · exact ⟨h.far.bel.trans (hB.mono (by omega)), fun b hb hne => (hB.block b hb).trans (h.far.blk b hb hne)⟩

end Go.Proofs.YtmbfdonefpegeaaDoor

namespace Go.Proofs.YtmbfdonefpegeaaDoor
open Go.RowKit

theorem en_store {w wr : World} {p : Nat} {a : Option Addr} {bs : List UInt8} {c z g cap x : Nat} {zs : List Int} {y : Int} (h : EnSt w wr p a bs c (.slice (some ⟨g, 0, none⟩) zs.length cap) zs z) (hp : p < w.heap.size) :
    EnSt w (wr.setCell ⟨g, x, none⟩ (.int .i64 y)) p a bs c (.slice (some ⟨g, 0, none⟩) zs.length cap) (zs.set x y) z := by
  obtain ⟨h1, h2⟩ := h.own.stored x (.int .i64 y)
  have hs := h.far.bel.size
  have hg := (h.own.lt g rfl).1
  have hB : Below w.heap.size wr (wr.setCell ⟨g, x, none⟩ (.int .i64 y)) := (Below.refl _ _).setCell hg _
  obtain ⟨z', k1, k2⟩ := h.cur
  refine ⟨?_, ⟨z', k1, ?_⟩, ?_⟩
  · rw [List.length_set]
    have e : zCells (zs.set x y) = (zCells zs).set x (.int .i64 y) := by simp [zCells, List.map_set]
    rw [e]; exact h1
  · have hb := hB.block p hp
    obtain ⟨s, hs2⟩ := k2.c2
    exact ⟨(World.cell?_of_block (a := ⟨p, 0, none⟩) hb).trans k2.c0, (World.cell?_of_block (a := ⟨p, 1, none⟩) hb).trans k2.c1, ⟨s, (World.cell?_of_block (a := ⟨p, 2, none⟩) hb).trans hs2⟩, fun i => (World.frozen?_of_block (a := ⟨p, i, none⟩) hb).trans (k2.f i), k2.by_.of_block (fun b hi => hB.block b (by have := k2.lo b hi; omega)), k2.lo, k2.sm⟩
  · exact ⟨h.far.bel.trans (hB.mono (by omega)), fun b hb hne => (hB.block b hb).trans (h.far.blk b hb hne)⟩

theorem ints_lit (w : World) (zs : List Int) (t : TypeId) : Ints (w.alloc (.cells (zCells zs).toArray t)) (some ⟨w.heap.size, 0, none⟩) zs := fun i z hi => by
  refine ⟨w.heap.size, 0, rfl, ?_⟩
  rw [cell_of_row _ _ _ _ t (0, 0) (heap_alloc_new w _), Nat.zero_add]
  simpa using zCells_get hi

end Go.Proofs.YtmbfdonefpegeaaDoor
