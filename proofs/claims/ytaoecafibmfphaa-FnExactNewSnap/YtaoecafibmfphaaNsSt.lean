/-
  A new world of chapter 8 while it is gathered: its three lists and the lists of its pictures lie apart, in memory of the call's own.
-/
import Derived.Test.YtaoecafibmfphaaSnpM
import Derived.Test.YtaoecafibmfphaaChApp
import Derived.Test.YtaoecafibmfphaaZCell
namespace Go.Proofs.Ytaoecafibmfphaa
open Go.RowKit

theorem ownsC_of_block {w w' : World} {B : Nat} {e : TypeId} {size : Nat} {v : Value} {n : Nat} {xs : List Value} (h : w.ownsRow B e size v n xs) (hs : ∀ q, v.ownBlock = some q → w'.heap[q]? = w.heap[q]?) : w'.ownsRow B e size v n xs := by
  obtain ⟨h1, h2 | ⟨g, cap, cur, hv, hg, hh, r⟩⟩ := h
  · exact ⟨h1, .inl h2⟩
  · exact ⟨h1, .inr ⟨g, cap, cur, hv, hg, (hs g (by rw [hv]; rfl)).trans hh, r⟩⟩

/-- The cells of new pictures, their lists in these blocks. -/
def pcCells (n : Nat) : List (Nat × Nat) → List Value
  | [] => []
  | p :: r => .bool false :: .int .i64 0 :: .slice (some ⟨p.1, 0, none⟩) n n :: .slice (some ⟨p.2, 0, none⟩) n n :: pcCells n r

theorem pcCells_app (n : Nat) : ∀ xs ys : List (Nat × Nat), pcCells n (xs ++ ys) = pcCells n xs ++ pcCells n ys
  | [], ys => rfl
  | q :: r, ys => by simp [pcCells, pcCells_app n r ys]

theorem pcCells_get (n : Nat) : ∀ (ms : List (Nat × Nat)) (i : Nat) (q : Nat × Nat), ms[i]? = some q → (pcCells n ms)[i * 4]? = some (.bool false) ∧ (pcCells n ms)[i * 4 + 1]? = some (.int .i64 0) ∧ (pcCells n ms)[i * 4 + 2]? = some (.slice (some ⟨q.1, 0, none⟩) n n) ∧ (pcCells n ms)[i * 4 + 3]? = some (.slice (some ⟨q.2, 0, none⟩) n n)
  | [], i, q, h => by simp at h
  | p :: r, 0, q, h => by
    simp at h; subst h
    exact ⟨rfl, rfl, rfl, rfl⟩
  | p :: r, i + 1, q, h => by
    have := pcCells_get n r i q (by simpa using h)
    have e1 : (i + 1) * 4 = i * 4 + 1 + 1 + 1 + 1 := by omega
    rw [e1]
    exact ⟨this.1, this.2.1, this.2.2.1, this.2.2.2⟩

theorem pcCells_one (n : Nat) (p : Nat × Nat) : ∀ u ∈ pcCells n [p], u.oneCell' = true := fun u hu => by
  simp [pcCells] at hu
  rcases hu with rfl | rfl | rfl | rfl <;> rfl

structure NsSt (B S n : Nat) (am tot : Int) (w wr : World) (ka kp : Nat) (v0 v1 v2 : Value) (bl : List (Nat × Nat)) : Prop where
  o0 : wr.ownsRow B 3 1 v0 ka (zCells (List.replicate ka am))
  o1 : wr.ownsRow B 78 3 v1 (chansL n).length (chCells (chansL n))
  o2 : wr.ownsRow B 65 4 v2 kp (pcCells n bl)
  len : bl.length = kp
  rows : ∀ p ∈ bl, wr.rowIs p.1 3 n (fun _ => .int .i64 0) ∧ wr.rowIs p.2 4 n (fun _ => .bool false)
  ge : ∀ p ∈ bl, B ≤ p.1 ∧ B ≤ p.2
  d0 : ∀ q, v0.ownBlock = some q → q ≠ S ∧ v1.ownBlock ≠ some q ∧ v2.ownBlock ≠ some q ∧ ∀ p ∈ bl, p.1 ≠ q ∧ p.2 ≠ q
  d1 : ∀ q, v1.ownBlock = some q → q ≠ S ∧ v2.ownBlock ≠ some q ∧ ∀ p ∈ bl, p.1 ≠ q ∧ p.2 ≠ q
  d2 : ∀ q, v2.ownBlock = some q → q ≠ S ∧ ∀ p ∈ bl, p.1 ≠ q ∧ p.2 ≠ q
  db : ∀ p ∈ bl, p.1 ≠ S ∧ p.2 ≠ S ∧ p.1 ≠ p.2
  dp : bl.Pairwise fun p q => p.1 ≠ q.1 ∧ p.1 ≠ q.2 ∧ p.2 ≠ q.1 ∧ p.2 ≠ q.2
  c0 : wr.cell? ⟨S, 0, none⟩ = some v0
  c1 : wr.cell? ⟨S, 1, none⟩ = some v1
  c2 : wr.cell? ⟨S, 2, none⟩ = some v2
  c3 : wr.cell? ⟨S, 3, none⟩ = some (.int .i64 0)
  c4 : wr.cell? ⟨S, 4, none⟩ = some (.int .i64 tot)
  fr : ∀ o, wr.frozen? ⟨S, o, none⟩ = false
  bel : Below w.heap.size w wr
  wB : w.heap.size ≤ B
  wS : w.heap.size ≤ S

theorem NsSt.ltS {B S n : Nat} {am tot : Int} {w wr : World} {ka kp : Nat} {v0 v1 v2 : Value} {bl : List (Nat × Nat)} (h : NsSt B S n am tot w wr ka kp v0 v1 v2 bl) : S < wr.heap.size := lt_of_cell h.c0

theorem NsSt.lt {B S n : Nat} {am tot : Int} {w wr : World} {ka kp : Nat} {v0 v1 v2 : Value} {bl : List (Nat × Nat)} (h : NsSt B S n am tot w wr ka kp v0 v1 v2 bl) : ∀ p ∈ bl, p.1 < wr.heap.size ∧ p.2 < wr.heap.size := fun p hp =>
  ⟨(h.rows p hp).1.lt, (h.rows p hp).2.lt⟩

theorem NsSt.below {B S n : Nat} {am tot : Int} {w wr u : World} {ka kp : Nat} {v0 v1 v2 : Value} {bl : List (Nat × Nat)} (h : NsSt B S n am tot w wr ka kp v0 v1 v2 bl) (hb : Below wr.heap.size wr u) : NsSt B S n am tot w u ka kp v0 v1 v2 bl where
  o0 := ownsC_below h.o0 hb
  o1 := ownsC_below h.o1 hb
  o2 := ownsC_below h.o2 hb
  len := h.len
  rows := fun p hp => ⟨(h.rows p hp).1.of_block (hb.block _ (h.lt p hp).1), (h.rows p hp).2.of_block (hb.block _ (h.lt p hp).2)⟩
  ge := h.ge
  d0 := h.d0
  d1 := h.d1
  d2 := h.d2
  db := h.db
  dp := h.dp
  c0 := celB hb h.c0
  c1 := celB hb h.c1
  c2 := celB hb h.c2
  c3 := celB hb h.c3
  c4 := celB hb h.c4
  fr := fun o => frzB hb h.ltS (h.fr o)
  bel := stB h.bel hb
  wB := h.wB
  wS := h.wS

/-- One amount more. -/
theorem NsSt.amount {B S n : Nat} {am tot : Int} {w wr wq u : World} {ka kp g cap : Nat} {v0 v1 v2 : Value} {bl : List (Nat × Nat)} (h0 : NsSt B S n am tot w wr ka kp v0 v1 v2 bl) (hq : Below wr.heap.size wr wq)
    (hgrow : wq.grownBy u v0.ownBlock) (hown : u.ownsRow B 3 1 (.slice (some ⟨g, 0, none⟩) (ka + 1) cap) (ka + 1) (zCells (List.replicate ka am) ++ zCells [am])) (hat : v0.ownBlock = some g ∨ g = wq.heap.size) :
    NsSt B S n am tot w (u.setCell ⟨S, 0, none⟩ (.slice (some ⟨g, 0, none⟩) (ka + 1) cap)) (ka + 1) kp (.slice (some ⟨g, 0, none⟩) (ka + 1) cap) v1 v2 bl := by
  have h := h0.below hq
  have hS := h.ltS
  have hnS : v0.ownBlock ≠ some S := fun e => (h.d0 S e).1 rfl
  have hg : g ≠ S ∧ v1.ownBlock ≠ some g ∧ v2.ownBlock ≠ some g ∧ ∀ p ∈ bl, p.1 ≠ g ∧ p.2 ≠ g := by
    rcases hat with e | e
    · exact h.d0 g e
    · refine ⟨by omega, fun e1 => ?_, fun e1 => ?_, fun p hp => ?_⟩
      · have := (h.o1.lt g e1).2; omega
      · have := (h.o2.lt g e1).2; omega
      · have := h.lt p hp; omega
  have same : ∀ q, q < wq.heap.size → v0.ownBlock ≠ some q → q ≠ S → (u.setCell ⟨S, 0, none⟩ (.slice (some ⟨g, 0, none⟩) (ka + 1) cap)).heap[q]? = wq.heap[q]? := fun q hq1 hq2 hq3 => by
    rw [Below.heap_setCell u ⟨S, 0, none⟩ _ q (by simpa using hq3)]
    exact hgrow.block q hq1 (fun e => hq2 e.symm)
  have bS : u.heap[S]? = wq.heap[S]? := hgrow.block S hS (fun e => hnS e.symm)
  have cS : ∀ o, u.cell? ⟨S, o, none⟩ = wq.cell? ⟨S, o, none⟩ := fun o => World.cell?_of_block (a := ⟨S, o, none⟩) bS
  have fS : ∀ o, u.frozen? ⟨S, o, none⟩ = false := fun o => (World.frozen?_of_block (a := ⟨S, o, none⟩) bS).trans (h.fr o)
  refine ⟨?_, ?_, ?_, h.len, fun p hp => ⟨?_, ?_⟩, h.ge, fun q hq' => ?_, h.d1, h.d2, h.db, h.dp, ?_, ?_, ?_, ?_, ?_, fun o => ?_, ?_, h.wB, h.wS⟩
  · have e : zCells (List.replicate (ka + 1) am) = zCells (List.replicate ka am) ++ zCells [am] := by rw [← zCells_app, List.replicate_succ']
    rw [e]
    exact ownsC_of_block hown fun q hq' => Below.heap_setCell u ⟨S, 0, none⟩ _ q (by simp [Value.ownBlock] at hq'; simp; omega)
  · exact ownsC_of_block h.o1 fun q hq' => same q (h.o1.lt q hq').2 (fun e => (h.d0 q e).2.1 hq') (h.d1 q hq').1
  · exact ownsC_of_block h.o2 fun q hq' => same q (h.o2.lt q hq').2 (fun e => (h.d0 q e).2.2.1 hq') (h.d2 q hq').1
  · exact (h.rows p hp).1.of_block (same p.1 (h.lt p hp).1 (fun e => ((h.d0 _ e).2.2.2 p hp).1 rfl) (h.db p hp).1)
  · exact (h.rows p hp).2.of_block (same p.2 (h.lt p hp).2 (fun e => ((h.d0 _ e).2.2.2 p hp).2 rfl) (h.db p hp).2.1)
  · simp [Value.ownBlock] at hq'; subst hq'; exact hg
  · simp [go_sem, cS, h.c0]
  · simp [go_sem, cS, h.c1]
  · simp [go_sem, cS, h.c2]
  · simp [go_sem, cS, h.c3]
  · simp [go_sem, cS, h.c4]
  · simp [go_sem, fS]
  · exact (h.bel.grown hgrow (by have := h.bel.size; omega) (fun k hk => Nat.le_trans h.wB (h.o0.lt k hk).1)).setCell h.wS _

/-- One picture more: its lists lie in new blocks. -/
theorem NsSt.picture {B S n : Nat} {am tot : Int} {w wr wq u : World} {ka kp g cap b2 b3 : Nat} {v0 v1 v2 : Value} {bl : List (Nat × Nat)} (h0 : NsSt B S n am tot w wr ka kp v0 v1 v2 bl) (hq : Below wr.heap.size wr wq) (hBw : B ≤ wr.heap.size)
    (l2 : wr.heap.size ≤ b2) (l3 : wr.heap.size ≤ b3) (l23 : b2 ≠ b3) (r2 : wq.rowIs b2 3 n (fun _ => .int .i64 0)) (r3 : wq.rowIs b3 4 n (fun _ => .bool false))
    (hgrow : wq.grownBy u v2.ownBlock) (hown : u.ownsRow B 65 4 (.slice (some ⟨g, 0, none⟩) (kp + 1) cap) (kp + 1) (pcCells n bl ++ pcCells n [(b2, b3)])) (hat : v2.ownBlock = some g ∨ g = wq.heap.size) :
    NsSt B S n am tot w (u.setCell ⟨S, 2, none⟩ (.slice (some ⟨g, 0, none⟩) (kp + 1) cap)) ka (kp + 1) v0 v1 (.slice (some ⟨g, 0, none⟩) (kp + 1) cap) (bl ++ [(b2, b3)]) := by
  have h := h0.below hq
  have hS := h.ltS
  have hS0 := h0.ltS
  have z2 := r2.lt
  have z3 := r3.lt
  have hnS : v2.ownBlock ≠ some S := fun e => (h.d2 S e).1 rfl
  have mem : ∀ p, p ∈ bl ++ [(b2, b3)] → p ∈ bl ∨ p = (b2, b3) := fun p hp => by simpa using hp
  have w0 : ∀ q, v0.ownBlock = some q → q < wr.heap.size := fun q e => (h0.o0.lt q e).2
  have w1 : ∀ q, v1.ownBlock = some q → q < wr.heap.size := fun q e => (h0.o1.lt q e).2
  have w2 : ∀ q, v2.ownBlock = some q → q < wr.heap.size := fun q e => (h0.o2.lt q e).2
  have hg : g ≠ S ∧ v0.ownBlock ≠ some g ∧ v1.ownBlock ≠ some g ∧ (∀ p ∈ bl, p.1 ≠ g ∧ p.2 ≠ g) ∧ b2 ≠ g ∧ b3 ≠ g := by
    rcases hat with e | e
    · have := w2 g e
      exact ⟨(h.d2 g e).1, fun e1 => (h.d0 g e1).2.2.1 e, fun e1 => (h.d1 g e1).2.1 e, (h.d2 g e).2, by omega, by omega⟩
    · refine ⟨by omega, fun e1 => ?_, fun e1 => ?_, fun p hp => ?_, by omega, by omega⟩
      · have := w0 g e1; have := hq.size; omega
      · have := w1 g e1; have := hq.size; omega
      · have := h.lt p hp; omega
  have same : ∀ q, q < wq.heap.size → v2.ownBlock ≠ some q → q ≠ S → (u.setCell ⟨S, 2, none⟩ (.slice (some ⟨g, 0, none⟩) (kp + 1) cap)).heap[q]? = wq.heap[q]? := fun q hq1 hq2 hq3 => by
    rw [Below.heap_setCell u ⟨S, 2, none⟩ _ q (by simpa using hq3)]
    exact hgrow.block q hq1 (fun e => hq2 e.symm)
  have bS : u.heap[S]? = wq.heap[S]? := hgrow.block S hS (fun e => hnS e.symm)
  have cS : ∀ o, u.cell? ⟨S, o, none⟩ = wq.cell? ⟨S, o, none⟩ := fun o => World.cell?_of_block (a := ⟨S, o, none⟩) bS
  have fS : ∀ o, u.frozen? ⟨S, o, none⟩ = false := fun o => (World.frozen?_of_block (a := ⟨S, o, none⟩) bS).trans (h.fr o)
  refine ⟨?_, ?_, ?_, by simp [h.len], fun p hp => ?_, fun p hp => ?_, fun q hq' => ?_, fun q hq' => ?_, fun q hq' => ?_, fun p hp => ?_, ?_, ?_, ?_, ?_, ?_, ?_, fun o => ?_, ?_, h.wB, h.wS⟩
  · exact ownsC_of_block h.o0 fun q hq' => same q (h.o0.lt q hq').2 (fun e => (h.d0 q hq').2.2.1 e) (h.d0 q hq').1
  · exact ownsC_of_block h.o1 fun q hq' => same q (h.o1.lt q hq').2 (fun e => (h.d1 q hq').2.1 e) (h.d1 q hq').1
  · rw [pcCells_app]
    exact ownsC_of_block hown fun q hq' => Below.heap_setCell u ⟨S, 2, none⟩ _ q (by simp [Value.ownBlock] at hq'; simp; omega)
  · rcases mem p hp with hp | rfl
    · exact ⟨(h.rows p hp).1.of_block (same p.1 (h.lt p hp).1 (fun e => ((h.d2 _ e).2 p hp).1 rfl) (h.db p hp).1), (h.rows p hp).2.of_block (same p.2 (h.lt p hp).2 (fun e => ((h.d2 _ e).2 p hp).2 rfl) (h.db p hp).2.1)⟩
    · exact ⟨r2.of_block (same b2 z2 (fun e => by have := w2 _ e; omega) (by omega)), r3.of_block (same b3 z3 (fun e => by have := w2 _ e; omega) (by omega))⟩
  · rcases mem p hp with hp | rfl
    · exact h.ge p hp
    · exact ⟨by simp only; omega, by simp only; omega⟩
  · obtain ⟨e1, e2, -, e4⟩ := h.d0 q hq'
    have := w0 q hq'
    refine ⟨e1, e2, fun e => hg.2.1 (by simp [Value.ownBlock] at e; rw [e]; exact hq'), fun p hp => ?_⟩
    rcases mem p hp with hp | rfl
    · exact e4 p hp
    · exact ⟨by simp only; omega, by simp only; omega⟩
  · obtain ⟨e1, -, e4⟩ := h.d1 q hq'
    have := w1 q hq'
    refine ⟨e1, fun e => hg.2.2.1 (by simp [Value.ownBlock] at e; rw [e]; exact hq'), fun p hp => ?_⟩
    rcases mem p hp with hp | rfl
    · exact e4 p hp
    · exact ⟨by simp only; omega, by simp only; omega⟩
  · simp [Value.ownBlock] at hq'
    subst hq'
    refine ⟨hg.1, fun p hp => ?_⟩
    rcases mem p hp with hp | rfl
    · exact hg.2.2.2.1 p hp
    · exact ⟨hg.2.2.2.2.1, hg.2.2.2.2.2⟩
  · rcases mem p hp with hp | rfl
    · exact h.db p hp
    · exact ⟨by simp only; omega, by simp only; omega, l23⟩
  · rw [List.pairwise_append]
    refine ⟨h.dp, List.pairwise_singleton _ _, fun p hp q hq' => ?_⟩
    obtain rfl := List.mem_singleton.1 hq'
    have := h0.lt p hp
    exact ⟨by simp only; omega, by simp only; omega, by simp only; omega, by simp only; omega⟩
  · simp [go_sem, cS, h.c0]
  · simp [go_sem, cS, h.c1]
  · simp [go_sem, cS, h.c2]
  · simp [go_sem, cS, h.c3]
  · simp [go_sem, cS, h.c4]
  · simp [go_sem, fS]
  · exact (h.bel.grown hgrow (by have := h.bel.size; omega) (fun k hk => Nat.le_trans h.wB (h.o2.lt k hk).1)).setCell h.wS _

end Go.Proofs.Ytaoecafibmfphaa
