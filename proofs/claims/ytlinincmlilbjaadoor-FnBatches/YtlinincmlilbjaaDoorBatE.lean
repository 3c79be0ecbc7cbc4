/-
  Drawn batches: the list of spec.(*l1Cur).batches, and the batch that is taken up.
-/
import Derived.Test.YtlinincmlilbjaaDoorBatD
import Derived.Test.YtlinincmlilbjaaDoorRead
namespace Go.Proofs.YtlinincmlilbjaaDoor
open Go.RowKit

/-- The batches read so far, told over another world with the same blocks. -/
theorem rd_base1 {w0 wr u : World} {v : Value} {qs : List Q} (h : RdSt w0 wr v qs) (h1 : ∀ b, v.ownBlock = some b → u.heap[b]? = wr.heap[b]?) (h2 : ∀ q, q ∈ qs → ∀ b, q.blk = some b → u.heap[b]? = wr.heap[b]?) (hu : w0.heap.size ≤ u.heap.size) : ∃ u0 : World, u0.heap.size = w0.heap.size ∧ RdSt u0 u v qs := by
  have e : ({ u with heap := u.heap.extract 0 w0.heap.size } : World).heap.size = w0.heap.size := by
    show (u.heap.extract 0 w0.heap.size).size = w0.heap.size
    rw [Array.size_extract]; omega
  refine ⟨{ u with heap := u.heap.extract 0 w0.heap.size }, e, ?_, ?_, h.gne, h.dis, ⟨rfl, rfl, rfl, by rw [e]; exact hu, fun k hk => ?_⟩⟩
  · rw [e]
    exact ownsR_of_block h.own h1
  · intro q hq
    rw [e]
    exact ⟨ownsR_of_block (h.recs q hq).1 (h2 q hq), (h.recs q hq).2⟩
  · rw [e] at hk
    show u.heap[k]? = (u.heap.extract 0 w0.heap.size)[k]?
    rw [Array.getElem?_extract]
    simp
    omega
theorem rd_base {w0 wr u : World} {v : Value} {qs : List Q} (h : RdSt w0 wr v qs) (hs : ∀ b, w0.heap.size ≤ b → b < wr.heap.size → u.heap[b]? = wr.heap[b]?) (hu : w0.heap.size ≤ u.heap.size) : ∃ u0 : World, u0.heap.size = w0.heap.size ∧ RdSt u0 u v qs :=
  rd_base1 h (fun b hb => hs b (h.own.lt b hb).1 (h.own.lt b hb).2) (fun q hq b hb => hs b ((h.recs q hq).1.lt b hb).1 ((h.recs q hq).1.lt b hb).2) hu

/-- While batches are drawn: the list, the cursor. -/
structure QSt (w wr : World) (p : Nat) (a : Option Addr) (bs : List UInt8) (c : Nat) (v : Value) (qs : List Q) (z : Nat) : Prop where
  rd : ∃ w0 : World, w0.heap.size = w.heap.size ∧ RdSt w0 wr v qs
  cur : Cur wr p a bs c z
  far : Far p w wr
theorem QSt.step {w wr u : World} {p : Nat} {a : Option Addr} {bs : List UInt8} {c : Nat} {v : Value} {qs : List Q} {z z1 : Nat} (h : QSt w wr p a bs c v qs z) (hp : p < w.heap.size) (hf : Far p wr u) (hc : Cur u p a bs c z1) : QSt w u p a bs c v qs z1 := by
  obtain ⟨w0, e, r⟩ := h.rd
  have hs := h.far.bel.size
  have hs2 := hf.bel.size
  obtain ⟨u0, e2, r2⟩ := rd_base r (fun b hb hl => hf.blk b hl (by omega)) (by omega)
  exact ⟨⟨u0, e2.trans e, r2⟩, hc, h.far.trans hf⟩
theorem QSt.drew {w wr u : World} {p : Nat} {a : Option Addr} {bs : List UInt8} {c : Nat} {v : Value} {qs : List Q} {z : Nat} (h : QSt w wr p a bs c v qs z) (hp : p < w.heap.size) (hd : Drew wr p a bs c z u) : ∃ z1, z1 ≤ z + 2 ∧ QSt w u p a bs c v qs z1 := by
  obtain ⟨z1, h1, h2, h3⟩ := hd
  exact ⟨z1, h1, h.step hp h3 h2⟩

theorem QSt.own {w wr : World} {p : Nat} {a : Option Addr} {bs : List UInt8} {c : Nat} {v : Value} {qs : List Q} {z : Nat} (h : QSt w wr p a bs c v qs z) : wr.ownsRow w.heap.size 25 5 v qs.length (qsCells qs) := by
  obtain ⟨w0, e, r⟩ := h.rd
  rw [← e]
  exact r.own
theorem QSt.form {w wr : World} {p : Nat} {a : Option Addr} {bs : List UInt8} {c : Nat} {v : Value} {qs : List Q} {z : Nat} (h : QSt w wr p a bs c v qs z) : ∃ av cv, v = .slice av qs.length cv ∧ qs.length ≤ cv := by
  obtain ⟨-, ⟨rfl, h0⟩ | ⟨g, cap, cur, rfl, -, -, hn, -⟩⟩ := h.own
  · exact ⟨none, 0, by rw [h0], by omega⟩
  · exact ⟨_, cap, rfl, hn⟩

/-- The batch that is taken up: its box, its records. -/
structure RSt (w u : World) (p : Nat) (a : Option Addr) (bs : List UInt8) (c : Nat) (v : Value) (qs : List Q) (z M eb : Nat) (x : Bt) (ra : Option Addr) (rc : Nat) : Prop where
  q : QSt w u p a bs c v qs z
  own : u.ownsRow M 9 1 (.slice ra x.recs.length rc) x.recs.length (strVals x.recs)
  sm : ∀ s, s ∈ x.recs → s.size < 256
  le : x.recs.length ≤ 3
  bx : BoxB u eb x (.slice ra x.recs.length rc)
  lo : M ≤ eb
  ne : (Value.slice ra x.recs.length rc).ownBlock ≠ some eb
  wm : w.heap.size ≤ M
  old : ∀ q, q ∈ qs → ∀ k, q.blk = some k → k < M
  vlt : ∀ k, v.ownBlock = some k → k < M
theorem RSt.step {w u u' : World} {p : Nat} {a : Option Addr} {bs : List UInt8} {c : Nat} {v : Value} {qs : List Q} {z z1 M eb : Nat} {x : Bt} {ra : Option Addr} {rc : Nat} (h : RSt w u p a bs c v qs z M eb x ra rc) (hp : p < w.heap.size) (hf : Far p u u') (hc : Cur u' p a bs c z1) : RSt w u' p a bs c v qs z1 M eb x ra rc := by
  have hw := h.wm
  have hl := h.lo
  exact ⟨h.q.step hp hf hc, ownsR_of_block h.own fun q hq => hf.blk q (h.own.lt q hq).2 (by have := (h.own.lt q hq).1; omega), h.sm, h.le, h.bx.of_block (hf.blk _ h.bx.lt (by omega)), hl, h.ne, hw, h.old, h.vlt⟩
theorem RSt.drew {w u u' : World} {p : Nat} {a : Option Addr} {bs : List UInt8} {c : Nat} {v : Value} {qs : List Q} {z M eb : Nat} {x : Bt} {ra : Option Addr} {rc : Nat} (h : RSt w u p a bs c v qs z M eb x ra rc) (hp : p < w.heap.size) (hd : Drew u p a bs c z u') : ∃ z1, z1 ≤ z + 2 ∧ RSt w u' p a bs c v qs z1 M eb x ra rc := by
  obtain ⟨z1, h1, h2, h3⟩ := hd
  exact ⟨z1, h1, h.step hp h3 h2⟩
theorem RSt.below {w u u' : World} {p : Nat} {a : Option Addr} {bs : List UInt8} {c : Nat} {v : Value} {qs : List Q} {z M eb : Nat} {x : Bt} {ra : Option Addr} {rc : Nat} (h : RSt w u p a bs c v qs z M eb x ra rc) (hp : p < w.heap.size) (hb : Below u.heap.size u u') : RSt w u' p a bs c v qs z M eb x ra rc :=
  h.step hp (Far.of_below hb (by have := h.bx.lt; have := h.wm; have := h.lo; omega)) (h.q.cur.below hb)
theorem RSt.box {w u : World} {p i : Nat} {a : Option Addr} {bs : List UInt8} {c : Nat} {v : Value} {qs : List Q} {z M eb : Nat} {x x' : Bt} {ra : Option Addr} {rc : Nat} {y : Value} (h : RSt w u p a bs c v qs z M eb x ra rc) (hp : p < w.heap.size) (hr : x'.recs = x.recs)
    (hx : BoxB (u.setCell ⟨eb, i, none⟩ y) eb x' (.slice ra x.recs.length rc)) : RSt w (u.setCell ⟨eb, i, none⟩ y) p a bs c v qs z M eb x' ra rc := by
  have hw := h.wm
  have hl := h.lo
  have same : ∀ b, b ≠ eb → (u.setCell ⟨eb, i, none⟩ y).heap[b]? = u.heap[b]? := fun b hb => Below.heap_setCell u ⟨eb, i, none⟩ y b hb
  obtain ⟨w0, e, r⟩ := h.q.rd
  have hs := h.q.far.bel.size
  refine ⟨⟨?_, curB_set h.q.cur (by omega), farB_set h.q.far hp (by omega)⟩, by rw [hr]; exact ownsR_of_block h.own fun q hq => same q (fun e => h.ne (by rw [hq, e])), by rw [hr]; exact h.sm, by rw [hr]; exact h.le, by rw [hr]; exact hx, hl, by rw [hr]; exact h.ne, hw, h.old, h.vlt⟩
  have hlt := h.bx.lt
  obtain ⟨u0, e2, r2⟩ := rd_base1 (u := u.setCell ⟨eb, i, none⟩ y) r (fun q hq => same q (by have := h.vlt q hq; omega)) (fun q hq k hk => same k (by have := h.old q hq k hk; omega)) (by simp; omega)
  exact ⟨u0, e2.trans e, r2⟩
theorem RSt.set0 {w u : World} {p : Nat} {a : Option Addr} {bs : List UInt8} {c : Nat} {v : Value} {qs : List Q} {z M eb : Nat} {x : Bt} {ra : Option Addr} {rc : Nat} (h : RSt w u p a bs c v qs z M eb x ra rc) (hp : p < w.heap.size) (y : Int) : RSt w (u.setCell ⟨eb, 0, none⟩ (.int .i64 y)) p a bs c v qs z M eb ⟨y, x.ep, x.pr, x.sq, x.recs⟩ ra rc :=
  h.box hp rfl (h.bx.set0 y)
theorem RSt.set1 {w u : World} {p : Nat} {a : Option Addr} {bs : List UInt8} {c : Nat} {v : Value} {qs : List Q} {z M eb : Nat} {x : Bt} {ra : Option Addr} {rc : Nat} (h : RSt w u p a bs c v qs z M eb x ra rc) (hp : p < w.heap.size) (y : Int) : RSt w (u.setCell ⟨eb, 1, none⟩ (.int .i64 y)) p a bs c v qs z M eb ⟨x.off, y, x.pr, x.sq, x.recs⟩ ra rc :=
  h.box hp rfl (h.bx.set1 y)

/-- One batch more. -/
theorem RSt.push {w u w6 : World} {p : Nat} {a : Option Addr} {bs : List UInt8} {c : Nat} {v : Value} {qs : List Q} {z M eb g2 cap2 : Nat} {x : Bt} {ra : Option Addr} {rc : Nat} (h : RSt w u p a bs c v qs z M eb x ra rc) (hp : p < w.heap.size)
    (hgrow : u.grownBy w6 v.ownBlock) (hown : w6.ownsRow w.heap.size 25 5 (.slice (some ⟨g2, 0, none⟩) (qs.length + 1) cap2) (qs.length + 1) (qsCells qs ++ qCells ⟨x, ra, rc⟩)) (hat : v.ownBlock = some g2 ∨ g2 = u.heap.size) :
    QSt w w6 p a bs c (.slice (some ⟨g2, 0, none⟩) (qs.length + 1) cap2) (qs ++ [⟨x, ra, rc⟩]) z := by
  have hw := h.wm
  have hl := h.lo
  obtain ⟨w0, e, r⟩ := h.q.rd
  have hs := h.q.far.bel.size
  have hold := h.old
  have hvl := h.vlt
  have hlt := h.bx.lt
  have hnew : ∀ k, (⟨x, ra, rc⟩ : Q).blk = some k → M ≤ k ∧ k < u.heap.size := fun k hk => h.own.lt k hk
  have hB : Below w.heap.size u w6 := (Below.refl _ _).grown hgrow (by omega) (fun k hk => by have := (r.own.lt k hk).1; omega)
  refine ⟨⟨w0, e, ?_, ?_, ?_, ?_, ?_⟩, curB_keep h.q.cur hp hB, ⟨h.q.far.bel.trans (hB.mono (by omega)), fun b hb hne => (hB.block b (by omega)).trans (h.q.far.blk b hb hne)⟩⟩
  · rw [e, qsCells_app, List.length_append, List.length_singleton]
    simpa [qsCells] using hown
  · intro q hq
    rcases List.mem_append.1 hq with hq | hq
    · refine ⟨ownsR_of_block (r.recs q hq).1 (fun k hk => ?_), (r.recs q hq).2⟩
      have hk2 := hold q hq k hk
      exact hgrow.block k (by omega) (fun e => r.gne q hq k hk e.symm)
    · simp only [List.mem_singleton] at hq
      subst hq
      refine ⟨owns_mono (ownsR_of_block h.own (fun k hk => ?_)) (by omega), h.sm, by have := h.le; show x.recs.length ≤ 8; omega⟩
      have hk2 := hnew k hk
      exact hgrow.block k hk2.2 (fun e => by have := hvl k e.symm; omega)
  · intro q hq k hk e
    simp only [Value.ownBlock, Option.some.injEq] at e
    subst e
    rcases List.mem_append.1 hq with hq | hq
    · rcases hat with ha | ha
      · exact r.gne q hq _ hk ha
      · have := hold q hq _ hk; omega
    · simp only [List.mem_singleton] at hq
      subst hq
      have hk2 := hnew _ hk
      rcases hat with ha | ha
      · have := hvl _ ha; omega
      · omega
  · refine List.pairwise_append.2 ⟨r.dis, List.pairwise_singleton _ _, fun q hq r hr k hk e => ?_⟩
    simp only [List.mem_singleton] at hr
    subst hr
    have := hold q hq k hk
    have := hnew k e
    omega
  · rw [← e] at hB
    exact r.bel.trans hB

/-- The Offset of one put anew. -/
theorem bats_off {w0 u : World} {a : Option Addr} {c k : Nat} {qs : List Q} (h : RdSt w0 u (.slice a qs.length c) qs) (hk : k < qs.length) :
    ∃ (g : Nat) (q : Q), a = some ⟨g, 0, none⟩ ∧ w0.heap.size ≤ g ∧ u.cell? ⟨g, k * 5, none⟩ = some (.int .i64 q.b.off) ∧ (∀ o, u.frozen? ⟨g, o, none⟩ = false) ∧
      ∀ y : Int, Bats (u.setCell ⟨g, k * 5, none⟩ (.int .i64 y)) (some ⟨g, 0, none⟩) ((qsB qs).set k ⟨y, q.b.ep, q.b.pr, q.b.sq, q.b.recs⟩) := by
  obtain ⟨q, hq⟩ : ∃ q, qs[k]? = some q := ⟨_, List.getElem?_eq_getElem hk⟩
  obtain ⟨g, cap, f, hv, hg, hn, hR, hx⟩ := row_of_ownsB h.own (by omega)
  simp only [Value.slice.injEq] at hv
  obtain ⟨rfl, -, rfl⟩ := hv
  have c0 : f (k * 5) = .int .i64 q.b.off := by
    have e := hx (k * 5) (by omega)
    have e2 := qsCells_get qs k q hq 0 (by omega)
    rw [Nat.add_zero] at e2
    rw [e2] at e
    exact (Option.some.inj e).symm
  refine ⟨g, q, rfl, hg, by rw [hR.cell (by omega), c0], fun o => hR.frozen o, fun y i b hi => ?_⟩
  have R3 := hR.set (k * 5) (.int .i64 y)
  have hlt := (List.getElem?_eq_some_iff.1 hi).1
  rw [List.length_set, qsB_len] at hlt
  obtain ⟨q2, hq2⟩ : ∃ q2, qs[i]? = some q2 := ⟨_, List.getElem?_eq_getElem hlt⟩
  have hm := List.mem_of_getElem? hq2
  have cell : ∀ j v, j < 5 → (i ≠ k ∨ j ≠ 0) → (qCells q2)[j]? = some v → (u.setCell ⟨g, k * 5, none⟩ (.int .i64 y)).cell? ⟨g, 0 + i * 5 + j, none⟩ = some v := fun j v hj hne hv => by
    have e := hx (i * 5 + j) (by omega)
    rw [qsCells_get qs i q2 hq2 j hj, hv] at e
    rw [Nat.zero_add, R3.cell (by omega), if_neg (by omega)]
    exact e.symm
  have hst : Strs (u.setCell ⟨g, k * 5, none⟩ (.int .i64 y)) q2.a q2.b.recs := by
    refine strs_of_owns (B := w0.heap.size) (c := q2.c) (ownsR_of_block (h.recs q2 hm).1 fun b hb => Below.heap_setCell u ⟨g, k * 5, none⟩ _ b (fun e => ?_)) (h.recs q2 hm).2.1
    exact h.gne q2 hm b hb (by rw [show b = g from e]; rfl)
  have h8 := (h.recs q2 hm).2.2
  refine ⟨g, 0, rfl, q2.a, q2.c, ?_⟩
  by_cases e : i = k
  · subst e
    rw [List.getElem?_set_self (by rw [qsB_len]; exact hk)] at hi
    obtain rfl := Option.some.inj hi
    rw [hq] at hq2
    obtain rfl := Option.some.inj hq2
    refine ⟨?_, cell 1 _ (by omega) (.inr (by omega)) rfl, cell 2 _ (by omega) (.inr (by omega)) rfl, cell 3 _ (by omega) (.inr (by omega)) rfl, cell 4 _ (by omega) (.inr (by omega)) rfl, hst, by unfold maxLen; show q.b.recs.length ≤ _; omega⟩
    rw [Nat.zero_add, R3.cell (by omega), if_pos rfl]
  · rw [List.getElem?_set_ne (Ne.symm e)] at hi
    obtain rfl : q2.b = b := by simpa [qsB, hq2] using hi
    exact ⟨cell 0 _ (by omega) (.inl e) rfl, cell 1 _ (by omega) (.inl e) rfl, cell 2 _ (by omega) (.inl e) rfl, cell 3 _ (by omega) (.inl e) rfl, cell 4 _ (by omega) (.inl e) rfl, hst, by unfold maxLen; omega⟩

end Go.Proofs.YtlinincmlilbjaaDoor
