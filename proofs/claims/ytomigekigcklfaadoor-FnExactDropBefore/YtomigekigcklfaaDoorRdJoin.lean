/-
  Two lists of batches that lie apart, joined by append.
-/
import Derived.Test.YtomigekigcklfaaDoorSeg
namespace Go.Proofs.YtomigekigcklfaaDoor
open Go.RowKit

/-- Many batches more, which were made since: what they held apart stays apart. -/
theorem rd_join {w wr u w6 : World} {v v2 : Value} {qs ps : List Q} {g2 cap2 : Nat} (h : RdSt w wr v qs) (hp : RdSt wr u v2 ps)
    (hgrow : u.grownBy w6 v.ownBlock) (hown : w6.ownsRow w.heap.size 43 5 (.slice (some ⟨g2, 0, none⟩) (qs.length + ps.length) cap2) (qs.length + ps.length) (qsCells qs ++ qsCells ps)) (hat : v.ownBlock = some g2 ∨ g2 = u.heap.size) :
    RdSt w w6 (.slice (some ⟨g2, 0, none⟩) (qs ++ ps).length cap2) (qs ++ ps) := by
  have hu := hp.bel
  have hbs := h.bel.size
  have hus := hu.size
  have hold : ∀ p, p ∈ qs → ∀ k, p.blk = some k → k < wr.heap.size := fun p hp k hk => ((h.recs p hp).1.lt k hk).2
  have hnew : ∀ p, p ∈ ps → ∀ k, p.blk = some k → wr.heap.size ≤ k ∧ k < u.heap.size := fun p hm k hk => (hp.recs p hm).1.lt k hk
  have hvl : ∀ k, v.ownBlock = some k → k < wr.heap.size := fun k hk => (h.own.lt k hk).2
  refine ⟨?_, ?_, ?_, ?_, ?_⟩
  · rw [qsCells_app, List.length_append]
    exact hown
  · intro p hm
    rcases List.mem_append.1 hm with hm | hm
    · refine ⟨ownsR_of_block (h.recs p hm).1 (fun k hk => ?_), (h.recs p hm).2⟩
      have hk2 := hold p hm k hk
      rw [hgrow.block k (by omega) (fun e => h.gne p hm k hk e.symm), hu.block k hk2]
    · refine ⟨owns_mono (ownsR_of_block (hp.recs p hm).1 (fun k hk => ?_)) hbs, (hp.recs p hm).2⟩
      have hk2 := hnew p hm k hk
      exact hgrow.block k hk2.2 (fun e => by have := hvl k e.symm; omega)
  · intro p hm k hk e
    simp only [Value.ownBlock, Option.some.injEq] at e
    subst e
    rcases List.mem_append.1 hm with hm | hm
    · rcases hat with ha | ha
      · exact h.gne p hm _ hk ha
      · have := hold p hm _ hk; omega
    · have hk2 := hnew p hm _ hk
      rcases hat with ha | ha
      · have := hvl _ ha; omega
      · omega
  · refine List.pairwise_append.2 ⟨h.dis, hp.dis, fun p hm r hr k hk e => ?_⟩
    have := hold p hm k hk
    have := hnew r hr k e
    omega
  · exact (h.bel.trans (hu.mono h.bel.size)).grown hgrow (by omega) (fun k hk => (h.own.lt k hk).1)

end Go.Proofs.YtomigekigcklfaaDoor
