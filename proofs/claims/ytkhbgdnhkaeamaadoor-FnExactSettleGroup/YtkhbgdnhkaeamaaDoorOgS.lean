/-
  Replicas that are gathered one by one, each with a log of its own: OwS.
-/
import Derived.Test.YtkhbgdnhkaeamaaDoorOgI
namespace Go.Proofs.YtkhbgdnhkaeamaaDoor
open Go.RowKit

/-- The row is v, kept in the box S; the logs lie apart; of what was there in x only the box has changed. -/
structure OwS (S : Nat) (x wr : World) (v : Value) (qs : List Rq) : Prop where
  own : wr.ownsRow x.heap.size 81 3 v qs.length (qs.flatMap rqC)
  lie : ∀ (i : Nat) (q : Rq), qs[i]? = some q → Rws wr q.a q.p.log ∧ q.p.log.length ≤ maxLen ∧ RowRw wr x.heap.size q.a q.p.log.length ∧ q.p.log.length ≤ q.c
  ap : ∀ (i : Nat) (q : Rq) (b : Nat), qs[i]? = some q → InI q.a q.p.log.length b → some b ≠ v.ownBlock
  dj : ∀ (i j : Nat) (q q' : Rq) (b : Nat), qs[i]? = some q → qs[j]? = some q' → i ≠ j → InI q.a q.p.log.length b → ¬ InI q'.a q'.p.log.length b
  oth : ∀ b, b < x.heap.size → b ≠ S → wr.heap[b]? = x.heap[b]?
  size : x.heap.size ≤ wr.heap.size
  bel : ∀ B, B ≤ S → Below B x wr
  cel : ∀ o u, o ≠ 4 → x.cell? ⟨S, o, none⟩ = some u → wr.cell? ⟨S, o, none⟩ = some u
  c4 : wr.cell? ⟨S, 4, none⟩ = some v
  fr : ∀ o, wr.frozen? ⟨S, o, none⟩ = false

theorem OwS.below {S : Nat} {x wr u : World} {v : Value} {qs : List Rq} (h : OwS S x wr v qs) (hS : S < x.heap.size) (hb : Below wr.heap.size wr u) : OwS S x u v qs := by
  have hz := h.size
  refine ⟨ownsZ_below h.own hb, fun i q hq => ?_, h.ap, h.dj, fun b h1 h2 => (hb.block b (by omega)).trans (h.oth b h1 h2), by have := hb.size; omega, fun B hB => (h.bel B hB).trans (hb.mono (by omega)), fun o y ho hc => celB hb (h.cel o y ho hc), celB hb h.c4, fun o => frzB hb (by omega) (h.fr o)⟩
  obtain ⟨h1, h2, h3, h4⟩ := h.lie i q hq
  exact ⟨h1.below hb, h2, h3.below hb, h4⟩

/-- One more, its log new since wr. -/
theorem OwS.step {S : Nat} {x wr u w5 : World} {v v' : Value} {qs : List Rq} {q : Rq} (h : OwS S x wr v qs) (hS : S < x.heap.size) (hb : Below wr.heap.size wr u) (hl : Rws u q.a q.p.log) (hm : q.p.log.length ≤ maxLen) (hr : RowRw u wr.heap.size q.a q.p.log.length) (hc : q.p.log.length ≤ q.c)
    (hown : w5.ownsRow x.heap.size 81 3 v' (qs.length + 1) (qs.flatMap rqC ++ rqC q)) (hgrow : u.grownBy w5 v.ownBlock) (hnew : ∀ b, v'.ownBlock = some b → v.ownBlock = some b ∨ u.heap.size ≤ b) :
    OwS S x (w5.setCell ⟨S, 4, none⟩ v') v' (qs ++ [q]) := by
  have hz := h.size
  have hzu := hb.size
  have hz5 := hgrow.size
  have hu := h.below hS hb
  have hvb : ∀ b, v.ownBlock = some b → x.heap.size ≤ b ∧ b < wr.heap.size := fun b e => h.own.lt b e
  have gt : ∀ (i : Nat) (p : Rq), (qs ++ [q])[i]? = some p → (i < qs.length ∧ qs[i]? = some p) ∨ (i = qs.length ∧ p = q) := fun i p hi => by
    by_cases e : i < qs.length
    · rw [List.getElem?_append_left e] at hi; exact .inl ⟨e, hi⟩
    · rw [List.getElem?_append_right (by omega)] at hi
      have : i - qs.length = 0 := by
        have := (List.getElem?_eq_some_iff.1 hi).1
        simp at this; omega
      rw [this] at hi
      simp at hi
      exact .inr ⟨by omega, hi.symm⟩
  have oldlt : ∀ (i : Nat) (p : Rq) (b : Nat), qs[i]? = some p → InI p.a p.p.log.length b → x.heap.size ≤ b ∧ b < wr.heap.size := fun i p b hp hi => (h.lie i p hp).2.2.1.lt hi
  have newlt : ∀ b, InI q.a q.p.log.length b → wr.heap.size ≤ b ∧ b < u.heap.size := fun b hi => hr.lt hi
  have same : ∀ b, b < u.heap.size → some b ≠ v.ownBlock → b ≠ S → (w5.setCell ⟨S, 4, none⟩ v').heap[b]? = u.heap[b]? := fun b h1 h2 h3 => by
    rw [Below.heap_setCell _ ⟨S, 4, none⟩ _ b (fun e => h3 e)]
    exact hgrow.block b h1 h2
  have hSv : some S ≠ v.ownBlock := fun e => by have := hvb S e.symm; omega
  have cS : ∀ o y, u.cell? ⟨S, o, none⟩ = some y → w5.cell? ⟨S, o, none⟩ = some y := fun o y hy => (World.cell?_of_block (a := ⟨S, o, none⟩) (hgrow.block S (by omega) hSv)).trans hy
  refine ⟨?_, fun i p hi => ?_, fun i p b hi hb' => ?_, fun i j p p' b hi hj hne hb' => ?_, fun b h1 h2 => ?_, by simp; omega, fun B hB => ?_, fun o y ho hy => ?_, ?_, fun o => ?_⟩
  · rw [List.length_append, List.flatMap_append]
    simp only [List.length_singleton, List.flatMap_cons, List.flatMap_nil, List.append_nil]
    obtain ⟨o1, o2⟩ := hown
    refine ⟨o1, o2.imp id fun ⟨g', cap', cur, hv, hg, hh, r⟩ => ⟨g', cap', cur, hv, hg, ?_, r⟩⟩
    exact (Below.heap_setCell w5 ⟨S, 4, none⟩ _ g' (by simp; omega)).trans hh
  · rcases gt i p hi with ⟨hlt, hp⟩ | ⟨rfl, rfl⟩
    · obtain ⟨h1, h2, h3, h4⟩ := hu.lie i p hp
      have sm : ∀ b, InI p.a p.p.log.length b → (w5.setCell ⟨S, 4, none⟩ v').heap[b]? = u.heap[b]? := fun b hi' => by
        have := oldlt i p b hp hi'
        exact same b (by omega) (h.ap i p b hp hi') (by omega)
      exact ⟨h1.of_block sm, h2, h3.of_block sm, h4⟩
    · have sm : ∀ b, InI p.a p.p.log.length b → (w5.setCell ⟨S, 4, none⟩ v').heap[b]? = u.heap[b]? := fun b hi' => by
        have := newlt b hi'
        exact same b (by omega) (fun e => by have := hvb b e.symm; omega) (by omega)
      exact ⟨hl.of_block sm, hm, (hr.mono hz).of_block sm, hc⟩
  · intro e
    rcases hnew b e.symm with e' | e'
    · rcases gt i p hi with ⟨hlt, hp⟩ | ⟨rfl, rfl⟩
      · exact h.ap i p b hp hb' e'.symm
      · have := newlt b hb'; have := hvb b e'; omega
    · rcases gt i p hi with ⟨hlt, hp⟩ | ⟨rfl, rfl⟩
      · have := oldlt i p b hp hb'; omega
      · have := newlt b hb'; omega
  · rcases gt i p hi with ⟨hlt, hp⟩ | ⟨rfl, rfl⟩
    · rcases gt j p' hj with ⟨hlt', hp'⟩ | ⟨rfl, rfl⟩
      · exact h.dj i j p p' b hp hp' hne hb'
      · intro hb2
        have := oldlt i p b hp hb'; have := newlt b hb2; omega
    · rcases gt j p' hj with ⟨hlt', hp'⟩ | ⟨e, -⟩
      · intro hb2
        have := oldlt j p' b hp' hb2; have := newlt b hb'; omega
      · exact absurd e.symm hne
  · rw [same b (by omega) (fun e => by have := hvb b e.symm; omega) h2]
    exact hu.oth b h1 h2
  · exact ((hu.bel B hB).grown hgrow (by omega) (fun b e => by have := hvb b e; omega)).setCell hB _
  · rw [World.cell?_setCell_other _ _ _ _ (by first | (simp; done) | (simp; omega))]
    exact cS o y (hu.cel o y ho hy)
  · exact World.cell?_setCell_same _ _ _ (cS 4 v hu.c4)
  · have : w5.frozen? ⟨S, o, none⟩ = false := (World.frozen?_of_block (a := ⟨S, o, none⟩) (hgrow.block S (by omega) hSv)).trans (hu.fr o)
    simp [go_sem, this]

/-- All are gathered. -/
theorem OwS.done {S : Nat} {x wr : World} {R c : Nat} {qs : List Rq} (h : OwS S x wr (.slice (some ⟨R, 0, none⟩) qs.length c) qs) (h0 : 0 < qs.length) : Ogk wr x.heap.size R qs.length qs := by
  obtain ⟨g, cap, f, hv, hg, hn, hR, hx⟩ := row_of_ownsZ h.own h0
  simp only [Value.slice.injEq, Option.some.injEq, Addr.mk.injEq, and_true, true_and] at hv
  obtain ⟨rfl, rfl⟩ := hv
  refine ⟨⟨c * 3, f, Nat.mul_le_mul_right 3 hn, hR, fun i q hq => ?_⟩, hg, fun i q hq => ⟨(h.lie i q hq).1, (h.lie i q hq).2.1⟩, fun i q hq _ => (h.lie i q hq).2.2.1, fun i q b hq hi => ((h.lie i q hq).2.2.1.lt hi).2, fun i q b hq hi e => h.ap i q b hq hi (by rw [e]; simp [Value.ownBlock]), fun i j q q' b hq hq' hne _ _ hi => h.dj i j q q' b hq hq' hne hi, fun i q hq _ => (h.lie i q hq).2.2.2⟩
  have hlt := (List.getElem?_eq_some_iff.1 hq).1
  have cel : ∀ r, r < 3 → (rqC q)[r]? = some (f (i * 3 + r)) := fun r hr => by
    rw [← flatZ_get rqC_len qs i r q hq hr]
    exact hx _ (by omega)
  exact ⟨(Option.some.inj (cel 0 (by omega))).symm, (Option.some.inj (cel 1 (by omega))).symm, (Option.some.inj (cel 2 (by omega))).symm⟩

end Go.Proofs.YtkhbgdnhkaeamaaDoor
