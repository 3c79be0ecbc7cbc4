/-
  Lists that are gathered while the cursor turns (as in FrD3, over QOut).
-/
import Derived.Test.YtdibddkhjefmlaaDoorFrD
import Derived.Test.YtdibddkhjefmlaaDoorQOutC
namespace Go.Proofs.YtdibddkhjefmlaaDoor
open Go.RowKit

/-- While lists are gathered and the cursor turns. -/
structure FlSt (w wr : World) (p : Nat) (a : Option Addr) (bs : List UInt8) (c : Nat) (v : Value) (qs : List QI) (z : Nat) : Prop where
  own : wr.ownsRow w.heap.size 31 1 v qs.length (qs.map QI.val)
  ints : QIn wr w.heap.size qs
  cur : ∃ z', z' ≤ z ∧ Cur wr p a bs c z'
  far : Far p w wr
theorem fl_far {w wr u : World} {p : Nat} {a : Option Addr} {bs : List UInt8} {c z z1 z2 : Nat} {v : Value} {qs : List QI} (h : FlSt w wr p a bs c v qs z) (hp : p < w.heap.size) (hf : Far p wr u) (hc : Cur u p a bs c z1) (hz : z1 ≤ z2) : FlSt w u p a bs c v qs z2 := by
  refine ⟨owns_far h.own hf hp, ⟨fun q hq => (h.ints.ints q hq).of_block (fun b hb => ?_), fun q hq => (h.ints.row q hq).of_block (fun b hb => ?_), h.ints.apart⟩, ⟨z1, hz, hc⟩, h.far.trans hf⟩
  all_goals
    have := (h.ints.row q hq).lt hb
    exact hf.blk b this.2 (by omega)
theorem cur_keep {u w6 : World} {p B : Nat} {a : Option Addr} {bs : List UInt8} {c z : Nat} (h2 : Cur u p a bs c z) (hp : p < B) (hB : Below B u w6) : Cur w6 p a bs c z := by
  have hb := hB.block p hp
  obtain ⟨s, hs2⟩ := h2.c2
  exact ⟨(World.cell?_of_block (a := ⟨p, 0, none⟩) hb).trans h2.c0, (World.cell?_of_block (a := ⟨p, 1, none⟩) hb).trans h2.c1, ⟨s, (World.cell?_of_block (a := ⟨p, 2, none⟩) hb).trans hs2⟩, fun i => (World.frozen?_of_block (a := ⟨p, i, none⟩) hb).trans (h2.f i), h2.by_.of_block (fun b hi => hB.block b (by have := h2.lo b hi; omega)), h2.lo, h2.sm⟩
theorem fl_push {w wr u w6 : World} {p : Nat} {a : Option Addr} {bs : List UInt8} {c z z1 z2 g2 cap2 : Nat} {v : Value} {qs : List QI} {q : QI} (h : FlSt w wr p a bs c v qs z) (hp : p < w.heap.size) (hf : Far p wr u) (hc : Cur u p a bs c z1) (hz : z1 ≤ z2)
    (hqi : Ints u q.a q.zs) (hqr : RowI u wr.heap.size q.a q.zs.length)
    (hgrow : u.grownBy w6 v.ownBlock) (hown : w6.ownsRow w.heap.size 31 1 (.slice (some ⟨g2, 0, none⟩) (qs.length + 1) cap2) (qs.length + 1) (qs.map QI.val ++ [q.val])) :
    FlSt w w6 p a bs c (.slice (some ⟨g2, 0, none⟩) (qs.length + 1) cap2) (qs ++ [q]) z2 := by
  have hU := fl_far h hp hf hc hz
  have hbs := h.far.bel.size
  have hus := hU.far.bel.size
  have h2 : QIn u w.heap.size (qs ++ [q]) := hU.ints.snoc (N := wr.heap.size) (fun p hp b hb => ((h.ints.row p hp).lt hb).2) hbs hqi hqr
  have same : ∀ p ∈ qs ++ [q], ∀ b, InI p.a p.zs.length b → w6.heap[b]? = u.heap[b]? := fun p hp b hb => by
    refine hgrow.block b ((h2.row p hp).lt hb).2 (fun e => ?_)
    exact own_types6 hU.own (h2.row p hp) hb e.symm
  have hB : Below w.heap.size u w6 := (Below.refl _ _).grown hgrow (by omega) (fun k hk => (hU.own.lt k hk).1)
  refine ⟨?_, ⟨fun p hp => (h2.ints p hp).of_block (same p hp), fun p hp => (h2.row p hp).of_block (same p hp), h2.apart⟩, ⟨z1, hz, cur_keep hc hp hB⟩, ⟨hU.far.bel.trans (hB.mono (by omega)), fun b hb hne => (hB.block b hb).trans (hU.far.blk b hb hne)⟩⟩
  rw [List.map_append, List.length_append, List.length_singleton]
  exact hown
theorem fl_out {w wr : World} {p : Nat} {a b : Option Addr} {bs : List UInt8} {c d z : Nat} {qs : List QI} (h : FlSt w wr p a bs c (.slice b qs.length d) qs z) (h7 : ∀ q ∈ qs, q.zs.length ≤ 7) : Intss wr b (qs.map QI.zs) := by
  have ho : OutQ wr w.heap.size b qs := by
    refine ⟨?_, h.ints⟩
    by_cases h0 : qs.length = 0
    · exact .inl h0
    · obtain ⟨g, cap, f, hv, hg, hn, hR, hx⟩ := row_of_ownsZ h.own (by omega)
      simp only [Value.slice.injEq] at hv
      obtain ⟨rfl, -, rfl⟩ := hv
      rw [Nat.mul_one] at hR
      refine .inr ⟨g, _, f, rfl, hg, hR, hn, fun i q hq => ?_⟩
      have hlt := (List.getElem?_eq_some_iff.1 hq).1
      have := hx i (by omega)
      rw [List.getElem?_map, hq] at this
      exact (Option.some.inj this).symm
  exact ho.intss fun zs hz => by
    obtain ⟨q, hq, rfl⟩ := List.mem_map.1 hz
    have := h7 q hq
    unfold maxLen; omega

end Go.Proofs.YtdibddkhjefmlaaDoor
