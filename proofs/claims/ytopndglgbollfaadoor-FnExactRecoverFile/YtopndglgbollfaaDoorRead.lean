/-
  Logs read from bytes: what is read, and what holds in memory while batches are read one behind the other.
-/
import Derived.Test.YtopndglgbollfaaDoorLawTake
import Derived.Test.YtopndglgbollfaaDoorLogs2
import Derived.Deep.AppendLies
namespace Go.Proofs.YtopndglgbollfaaDoor
open Go.RowKit

/-- The batches from a place on, as long as there are such and each may follow; and the place behind. -/
def readR (l : List UInt8) : Nat → Option Bt → Nat → List Bt × Nat
  | 0, _, at_ => ([], at_)
  | k + 1, p, at_ => match specTake l at_ with
    | none => ([], at_)
    | some (b, e) => if followB p b = true then (b :: (readR l k (some b) e).1, (readR l k (some b) e).2) else ([], at_)

def readL (l : List UInt8) : List Bt × Nat := readR l (l.length + 1) none 0

theorem specTake_end2 {l : List UInt8} {n : Nat} {b : Bt} {e : Nat} (h : specTake l n = some (b, e)) : n + 2 ≤ e ∧ e ≤ l.length := by
  unfold specTake at h
  split at h
  · rename_i hc
    cases hd : specDec (l.drop n) with
    | none => rw [hd] at h; simp at h
    | some b' =>
      rw [hd] at h
      simp at h
      obtain ⟨-, rfl⟩ := h
      have h2 := hc.2
      have h1 := hc.1
      rw [List.length_drop] at h1 h2
      have : 2 ≤ lenOf (l.drop n) := by unfold lenOf; omega
      omega
  · simp at h

/-- What is left to be read. -/
def LeftR (l : List UInt8) (bs : List Bt) (at_ : Nat) : Prop :=
  at_ ≤ l.length ∧ ∃ k, l.length < at_ + k ∧ readL l = (bs ++ (readR l k bs.getLast? at_).1, (readR l k bs.getLast? at_).2)

theorem left_start (l : List UInt8) : LeftR l [] 0 := ⟨Nat.zero_le _, l.length + 1, by omega, by simp [readL]⟩

theorem left_stop {l : List UInt8} {bs : List Bt} {at_ : Nat} (h : LeftR l bs at_) (hn : specTake l at_ = none ∨ ∃ b e, specTake l at_ = some (b, e) ∧ followB bs.getLast? b = false) : readL l = (bs, at_) := by
  obtain ⟨ha, k, hk, e⟩ := h
  have : readR l k bs.getLast? at_ = ([], at_) := by
    cases k with
    | zero => rfl
    | succ k =>
      rcases hn with hn | ⟨b, e', hn, hf⟩
      · simp [readR, hn]
      · simp [readR, hn, hf]
  rw [e, this]; simp

theorem left_step {l : List UInt8} {bs : List Bt} {at_ : Nat} {b : Bt} {e : Nat} (h : LeftR l bs at_) (hs : specTake l at_ = some (b, e)) (hf : followB bs.getLast? b = true) : LeftR l (bs ++ [b]) e := by
  obtain ⟨ha, k, hk, eq⟩ := h
  obtain ⟨h1, h2⟩ := specTake_end2 hs
  refine ⟨h2, ?_⟩
  cases k with
  | zero => omega
  | succ k =>
    refine ⟨k, by omega, ?_⟩
    rw [eq]
    simp [readR, hs, hf]

/-- A batch, where its records lie, and how much room they have. -/
structure Q where
  b : Bt
  a : Option Addr
  c : Nat

def qCells (q : Q) : List Value := [.int .i64 q.b.off, .int .i64 q.b.ep, .int .i64 q.b.pr, .int .i64 q.b.sq, .slice q.a q.b.recs.length q.c]
def qsCells : List Q → List Value
  | [] => []
  | q :: r => qCells q ++ qsCells r
def qsB (qs : List Q) : List Bt := qs.map Q.b

theorem qsCells_app : ∀ xs ys : List Q, qsCells (xs ++ ys) = qsCells xs ++ qsCells ys
  | [], ys => rfl
  | q :: r, ys => by simp [qsCells, qsCells_app r ys]

theorem qsCells_len : ∀ xs : List Q, (qsCells xs).length = xs.length * 5
  | [] => rfl
  | q :: r => by simp [qsCells, qCells, qsCells_len r]; omega

theorem qsCells_get : ∀ (qs : List Q) (i : Nat) (q : Q), qs[i]? = some q → ∀ j, j < 5 → (qsCells qs)[i * 5 + j]? = (qCells q)[j]?
  | [], i, q, h, _, _ => by simp at h
  | p :: r, 0, q, h, j, hj => by
    simp at h; subst h
    simp only [qsCells, Nat.zero_mul, Nat.zero_add]
    rw [List.getElem?_append_left (by simp [qCells]; omega)]
  | p :: r, i + 1, q, h, j, hj => by
    have := qsCells_get r i q (by simpa using h) j hj
    simp only [qsCells]
    rw [List.getElem?_append_right (by simp [qCells]; omega), ← this]
    congr 1
    simp [qCells]; omega

/-- The block of a batch's records. -/
def Q.blk (q : Q) : Option Nat := (Value.slice q.a q.b.recs.length q.c).ownBlock

/-- While batches are read: the list's row and each batch's records are the call's own, and lie apart. -/
structure RdSt (w : World) (wr : World) (v : Value) (qs : List Q) : Prop where
  own : wr.ownsRow w.heap.size 60 5 v qs.length (qsCells qs)
  recs : ∀ q, q ∈ qs → wr.ownsRow w.heap.size 9 1 (.slice q.a q.b.recs.length q.c) q.b.recs.length (strVals q.b.recs) ∧ (∀ s, s ∈ q.b.recs → s.size < 256) ∧ q.b.recs.length ≤ 8
  gne : ∀ q, q ∈ qs → ∀ k, q.blk = some k → v.ownBlock ≠ some k
  dis : qs.Pairwise (fun p q => ∀ k, p.blk = some k → q.blk ≠ some k)
  bel : Below w.heap.size w wr

theorem rd_start (w : World) : RdSt w w (.slice none 0 0) [] :=
  ⟨World.ownsRow_nil _ _ _ _, fun q h => by simp at h, fun q h => by simp at h, List.Pairwise.nil, Below.refl _ _⟩

theorem ownsR_of_block {w w' : World} {B : Nat} {e : TypeId} {size : Nat} {v : Value} {n : Nat} {xs : List Value} (h : w.ownsRow B e size v n xs) (hs : ∀ q, v.ownBlock = some q → w'.heap[q]? = w.heap[q]?) : w'.ownsRow B e size v n xs := by
  obtain ⟨h1, h2 | ⟨g, cap, cur, hv, hg, hh, r⟩⟩ := h
  · exact ⟨h1, .inl h2⟩
  · exact ⟨h1, .inr ⟨g, cap, cur, hv, hg, (hs g (by rw [hv]; rfl)).trans hh, r⟩⟩

theorem rd_below {w wr u : World} {v : Value} {qs : List Q} (h : RdSt w wr v qs) (hb : Below wr.heap.size wr u) : RdSt w u v qs :=
  ⟨owns_below h.own hb, fun q hq => ⟨owns_below (h.recs q hq).1 hb, (h.recs q hq).2⟩, h.gne, h.dis, h.bel.trans (hb.mono h.bel.size)⟩

/-- One batch more. -/
theorem rd_step {w wr u w6 : World} {v : Value} {qs : List Q} {q : Q} {g2 cap2 : Nat} (h : RdSt w wr v qs) (hu : Below wr.heap.size wr u)
    (hq : u.ownsRow wr.heap.size 9 1 (.slice q.a q.b.recs.length q.c) q.b.recs.length (strVals q.b.recs)) (hz : ∀ s, s ∈ q.b.recs → s.size < 256) (h8 : q.b.recs.length ≤ 8)
    (hgrow : u.grownBy w6 v.ownBlock) (hown : w6.ownsRow w.heap.size 60 5 (.slice (some ⟨g2, 0, none⟩) (qs.length + 1) cap2) (qs.length + 1) (qsCells qs ++ qCells q)) (hat : v.ownBlock = some g2 ∨ g2 = u.heap.size) :
    RdSt w w6 (.slice (some ⟨g2, 0, none⟩) (qs.length + 1) cap2) (qs ++ [q]) := by
  have hbs := h.bel.size
  have hus := hu.size
  have hold : ∀ p, p ∈ qs → ∀ k, p.blk = some k → k < wr.heap.size := fun p hp k hk => ((h.recs p hp).1.lt k hk).2
  have hnew : ∀ k, q.blk = some k → wr.heap.size ≤ k ∧ k < u.heap.size := fun k hk => hq.lt k hk
  have hvl : ∀ k, v.ownBlock = some k → k < wr.heap.size := fun k hk => (h.own.lt k hk).2
  refine ⟨?_, ?_, ?_, ?_, ?_⟩
  · rw [qsCells_app, List.length_append, List.length_singleton]
    simpa [qsCells] using hown
  · intro p hp
    rcases List.mem_append.1 hp with hp | hp
    · refine ⟨ownsR_of_block (h.recs p hp).1 (fun k hk => ?_), (h.recs p hp).2⟩
      have hk2 := hold p hp k hk
      rw [hgrow.block k (by omega) (fun e => h.gne p hp k hk e.symm), hu.block k hk2]
    · simp only [List.mem_singleton] at hp
      subst hp
      refine ⟨owns_mono (ownsR_of_block hq (fun k hk => ?_)) hbs, hz, h8⟩
      have hk2 := hnew k hk
      exact hgrow.block k hk2.2 (fun e => by have := hvl k e.symm; omega)
  · intro p hp k hk e
    simp only [Value.ownBlock, Option.some.injEq] at e
    subst e
    rcases List.mem_append.1 hp with hp | hp
    · rcases hat with ha | ha
      · exact h.gne p hp _ hk ha
      · have := hold p hp _ hk; omega
    · simp only [List.mem_singleton] at hp
      subst hp
      have hk2 := hnew _ hk
      rcases hat with ha | ha
      · have := hvl _ ha; omega
      · omega
  · refine List.pairwise_append.2 ⟨h.dis, List.pairwise_singleton _ _, fun p hp r hr k hk e => ?_⟩
    simp only [List.mem_singleton] at hr
    subst hr
    have := hold p hp k hk
    have := hnew k e
    omega
  · exact (h.bel.trans (hu.mono h.bel.size)).grown hgrow (by omega) (fun k hk => (h.own.lt k hk).1)

theorem qsB_len (qs : List Q) : (qsB qs).length = qs.length := by simp [qsB]

theorem qsB_app (qs : List Q) (q : Q) : qsB (qs ++ [q]) = qsB qs ++ [q.b] := by simp [qsB]

theorem row_of_ownsB {w : World} {B : Nat} {t : TypeId} {size : Nat} {v : Value} {n : Nat} {xs : List Value} (h : w.ownsRow B t size v n xs) (hn : 0 < n) :
    ∃ g cap f, v = .slice (some ⟨g, 0, none⟩) n cap ∧ B ≤ g ∧ n ≤ cap ∧ w.rowIs g t (cap * size) f ∧ ∀ i, i < n * size → xs[i]? = some (f i) := by
  obtain ⟨h1, ⟨hv, h0⟩ | ⟨g, cap, cur, hv, hg, hh, hnc, hcap, hcs, ht⟩⟩ := h
  · omega
  · have hle : n * size ≤ cap * size := Nat.mul_le_mul_right _ hnc
    refine ⟨g, cap, fun j => cur.getD j undef, hv, hg, hnc, ⟨cur, hh, hcs, fun i hi => by simp [hcs, hi]⟩, fun i hi => ?_⟩
    rw [← ht, List.getElem?_take_of_lt hi]
    have : i < cur.size := by omega
    simp [this]

/-- What was read reads as these batches. -/
theorem rd_bats {w wr : World} {a : Option Addr} {c : Nat} {qs : List Q} (h : RdSt w wr (.slice a qs.length c) qs) : Bats wr a (qsB qs) := fun i b hi => by
  have hlt := (List.getElem?_eq_some_iff.1 hi).1
  rw [qsB_len] at hlt
  obtain ⟨q, hq⟩ : ∃ q, qs[i]? = some q := ⟨_, List.getElem?_eq_getElem hlt⟩
  obtain rfl : q.b = b := by simpa [qsB, hq] using hi
  obtain ⟨g, cap, f, hv, hg, hn, hR, hx⟩ := row_of_ownsB h.own (by omega)
  simp only [Value.slice.injEq] at hv
  obtain ⟨rfl, -, rfl⟩ := hv
  have hm := List.mem_of_getElem? hq
  have cell : ∀ j v, j < 5 → (qCells q)[j]? = some v → wr.cell? ⟨g, 0 + i * 5 + j, none⟩ = some v := fun j v hj hv => by
    have e := hx (i * 5 + j) (by omega)
    rw [qsCells_get qs i q hq j hj, hv] at e
    rw [Nat.zero_add, hR.cell (by omega)]
    exact e.symm
  refine ⟨g, 0, rfl, q.a, q.c, cell 0 _ (by omega) rfl, cell 1 _ (by omega) rfl, cell 2 _ (by omega) rfl, cell 3 _ (by omega) rfl, cell 4 _ (by omega) rfl, strs_of_owns (h.recs q hm).1 (h.recs q hm).2.1, ?_⟩
  have := (h.recs q hm).2.2
  unfold maxLen; omega

end Go.Proofs.YtopndglgbollfaaDoor
