/-
  Drawn calls: the state of spec.(*l1Cur).calls.
-/
import Derived.Test.YtmbfdonefpegeaaDoorCur2
import Derived.Test.YtmbfdonefpegeaaDoorHiS3
import Derived.Test.YtmbfdonefpegeaaDoorHmQ0J
import Derived.RangeFuncBox
namespace Go.Proofs.YtmbfdonefpegeaaDoor
open Go.RowKit

theorem curO_set {u : World} {p : Nat} {a : Option Addr} {bs : List UInt8} {c z g i : Nat} {v : Value} (h : Cur u p a bs c z) (hg : p < g) : Cur (u.setCell ⟨g, i, none⟩ v) p a bs c z := by
  have same : ∀ b, b ≠ g → (u.setCell ⟨g, i, none⟩ v).heap[b]? = u.heap[b]? := fun b hb => Below.heap_setCell u ⟨g, i, none⟩ v b hb
  have hb := same p (by omega)
  obtain ⟨s, hs2⟩ := h.c2
  exact ⟨(World.cell?_of_block (a := ⟨p, 0, none⟩) hb).trans h.c0, (World.cell?_of_block (a := ⟨p, 1, none⟩) hb).trans h.c1, ⟨s, (World.cell?_of_block (a := ⟨p, 2, none⟩) hb).trans hs2⟩, fun i => (World.frozen?_of_block (a := ⟨p, i, none⟩) hb).trans (h.f i), h.by_.of_block (fun b hi => same b (by have := h.lo b hi; omega)), h.lo, h.sm⟩
theorem farO_set {w u : World} {p g i : Nat} {v : Value} (h : Far p w u) (hp : p < w.heap.size) (hg : w.heap.size ≤ g) : Far p w (u.setCell ⟨g, i, none⟩ v) :=
  ⟨Below.setCell h.bel (p := ⟨g, i, none⟩) (by show p ≤ g; omega) v, fun b hb hne => (Below.heap_setCell u ⟨g, i, none⟩ v b (by show b ≠ g; omega)).trans (h.blk b hb hne)⟩
theorem IR.blk {w w' : World} {R m : Nat} {l : List Int} (h : IR w R m l) (hb : w'.heap[R]? = w.heap[R]?) : IR w' R m l := by
  obtain ⟨h1, f, h2, h3⟩ := h
  exact ⟨h1, f, h2.of_block hb, h3⟩
theorem ownsO_blk {w w' : World} {B : Nat} {e : TypeId} {size : Nat} {v : Value} {n : Nat} {xs : List Value} (h : w.ownsRow B e size v n xs) (hs : ∀ q, v.ownBlock = some q → w'.heap[q]? = w.heap[q]?) : w'.ownsRow B e size v n xs := by
  obtain ⟨h1, h2 | ⟨g, cap, cur, hv, hg, hh, r⟩⟩ := h
  · exact ⟨h1, .inl h2⟩
  · exact ⟨h1, .inr ⟨g, cap, cur, hv, hg, (hs g (by rw [hv]; rfl)).trans hh, r⟩⟩

/-- While calls are drawn: the list, the two rows, the cursor. -/
structure CSt (w wr : World) (p : Nat) (a : Option Addr) (bs : List UInt8) (c : Nat) (v : Value) (l : List Cl) (z : Nat) : Prop where
  lo : wr.ownsRow (w.heap.size + 2) 53 6 v l.length (l.flatMap clC)
  rl : ∃ ls, ls.length = 4 ∧ IR wr w.heap.size 4 ls
  rv : ∃ vs, vs.length = 3 ∧ IR wr (w.heap.size + 1) 3 vs
  cur : Cur wr p a bs c z
  far : Far p w wr
  sz : w.heap.size + 2 ≤ wr.heap.size
theorem CSt.step {w wr u : World} {p : Nat} {a : Option Addr} {bs : List UInt8} {c z z1 : Nat} {v : Value} {l : List Cl} (h : CSt w wr p a bs c v l z) (hp : p < w.heap.size) (hf : Far p wr u) (hc : Cur u p a bs c z1) : CSt w u p a bs c v l z1 := by
  obtain ⟨ls, l1, l2⟩ := h.rl
  obtain ⟨vs, v1, v2⟩ := h.rv
  have hs := h.sz
  exact ⟨ownsO_blk h.lo fun q hq => hf.blk q (h.lo.lt q hq).2 (by have := (h.lo.lt q hq).1; omega), ⟨ls, l1, l2.blk (hf.blk _ (by omega) (by omega))⟩, ⟨vs, v1, v2.blk (hf.blk _ (by omega) (by omega))⟩, hc, h.far.trans hf, Nat.le_trans hs hf.bel.size⟩

/-- The call under way, in a box of its own. -/
structure CEv (w u : World) (p : Nat) (a : Option Addr) (bs : List UInt8) (c : Nat) (v : Value) (l : List Cl) (z eb : Nat) (x : Cl) : Prop where
  st : CSt w u p a bs c v l z
  at_ : u.cell? ⟨eb, 0, none⟩ = some (.int .i64 x.client) ∧ u.cell? ⟨eb, 1, none⟩ = some (.int .i64 x.object) ∧ u.cell? ⟨eb, 2, none⟩ = some (.bool x.write) ∧ u.cell? ⟨eb, 3, none⟩ = some (.int .i64 x.value) ∧ u.cell? ⟨eb, 4, none⟩ = some (.int .i64 x.beg) ∧ u.cell? ⟨eb, 5, none⟩ = some (.int .i64 x.fin)
  fr : ∀ i, u.frozen? ⟨eb, i, none⟩ = false
  lo : w.heap.size + 2 ≤ eb
  ne : v.ownBlock ≠ some eb
theorem CEv.lt {w u : World} {p : Nat} {a : Option Addr} {bs : List UInt8} {c z eb : Nat} {v : Value} {l : List Cl} {x : Cl} (h : CEv w u p a bs c v l z eb x) : eb < u.heap.size := lt_of_cell h.at_.1
theorem CEv.step {w u u' : World} {p : Nat} {a : Option Addr} {bs : List UInt8} {c z z' eb : Nat} {v : Value} {l : List Cl} {x : Cl} (h : CEv w u p a bs c v l z eb x) (hp : p < w.heap.size) (hf : Far p u u') (hc : Cur u' p a bs c z') : CEv w u' p a bs c v l z' eb x := by
  have hb := hf.blk eb h.lt (by have := h.lo; omega)
  obtain ⟨h0, h1, h2, h3, h4, h5⟩ := h.at_
  exact ⟨h.st.step hp hf hc, ⟨(World.cell?_of_block (a := ⟨eb, 0, none⟩) hb).trans h0, (World.cell?_of_block (a := ⟨eb, 1, none⟩) hb).trans h1, (World.cell?_of_block (a := ⟨eb, 2, none⟩) hb).trans h2, (World.cell?_of_block (a := ⟨eb, 3, none⟩) hb).trans h3, (World.cell?_of_block (a := ⟨eb, 4, none⟩) hb).trans h4, (World.cell?_of_block (a := ⟨eb, 5, none⟩) hb).trans h5⟩, fun i => (World.frozen?_of_block (a := ⟨eb, i, none⟩) hb).trans (h.fr i), h.lo, h.ne⟩
/-- A store into the box of the call. -/
theorem CSt.other {w u : World} {p : Nat} {a : Option Addr} {bs : List UInt8} {c z eb : Nat} {v : Value} {l : List Cl} (h : CSt w u p a bs c v l z) (hp : p < w.heap.size) (hlo : w.heap.size + 2 ≤ eb) (hne : v.ownBlock ≠ some eb) (i : Nat) (y : Value) : CSt w (u.setCell ⟨eb, i, none⟩ y) p a bs c v l z := by
  have same : ∀ b, b ≠ eb → (u.setCell ⟨eb, i, none⟩ y).heap[b]? = u.heap[b]? := fun b hb => Below.heap_setCell u ⟨eb, i, none⟩ y b hb
  obtain ⟨ls, l1, l2⟩ := h.rl
  obtain ⟨vs, v1, v2⟩ := h.rv
  exact ⟨ownsO_blk h.lo fun q hq => same q (fun e => hne (by rw [hq, e])), ⟨ls, l1, l2.blk (same _ (by omega))⟩, ⟨vs, v1, v2.blk (same _ (by omega))⟩, curO_set h.cur (by omega), farO_set h.far hp (by omega), by simpa using h.sz⟩
theorem CEv.set3 {w u : World} {p : Nat} {a : Option Addr} {bs : List UInt8} {c z eb : Nat} {v : Value} {l : List Cl} {x : Cl} (h : CEv w u p a bs c v l z eb x) (hp : p < w.heap.size) (y : Int) : CEv w (u.setCell ⟨eb, 3, none⟩ (.int .i64 y)) p a bs c v l z eb ⟨x.client, x.object, x.write, y, x.beg, x.fin⟩ := by
  obtain ⟨h0, h1, h2, h3, h4, h5⟩ := h.at_
  have fr := h.fr
  exact ⟨h.st.other hp h.lo h.ne _ _, ⟨by simp [go_sem, h0], by simp [go_sem, h1], by simp [go_sem, h2], by simp [go_sem, h3], by simp [go_sem, h4], by simp [go_sem, h5]⟩, fun i => by simp [go_sem, fr], h.lo, h.ne⟩
theorem CEv.set4 {w u : World} {p : Nat} {a : Option Addr} {bs : List UInt8} {c z eb : Nat} {v : Value} {l : List Cl} {x : Cl} (h : CEv w u p a bs c v l z eb x) (hp : p < w.heap.size) (y : Int) : CEv w (u.setCell ⟨eb, 4, none⟩ (.int .i64 y)) p a bs c v l z eb ⟨x.client, x.object, x.write, x.value, y, x.fin⟩ := by
  obtain ⟨h0, h1, h2, h3, h4, h5⟩ := h.at_
  have fr := h.fr
  exact ⟨h.st.other hp h.lo h.ne _ _, ⟨by simp [go_sem, h0], by simp [go_sem, h1], by simp [go_sem, h2], by simp [go_sem, h3], by simp [go_sem, h4], by simp [go_sem, h5]⟩, fun i => by simp [go_sem, fr], h.lo, h.ne⟩
theorem CEv.set5 {w u : World} {p : Nat} {a : Option Addr} {bs : List UInt8} {c z eb : Nat} {v : Value} {l : List Cl} {x : Cl} (h : CEv w u p a bs c v l z eb x) (hp : p < w.heap.size) (y : Int) : CEv w (u.setCell ⟨eb, 5, none⟩ (.int .i64 y)) p a bs c v l z eb ⟨x.client, x.object, x.write, x.value, x.beg, y⟩ := by
  obtain ⟨h0, h1, h2, h3, h4, h5⟩ := h.at_
  have fr := h.fr
  exact ⟨h.st.other hp h.lo h.ne _ _, ⟨by simp [go_sem, h0], by simp [go_sem, h1], by simp [go_sem, h2], by simp [go_sem, h3], by simp [go_sem, h4], by simp [go_sem, h5]⟩, fun i => by simp [go_sem, fr], h.lo, h.ne⟩
/-- A store into one of the two rows. -/
theorem CEv.row {w u : World} {p : Nat} {a : Option Addr} {bs : List UInt8} {c z eb k i : Nat} {v : Value} {l : List Cl} {x : Cl} (h : CEv w u p a bs c v l z eb x) (hp : p < w.heap.size) (hk : k = w.heap.size ∧ i < 4 ∨ k = w.heap.size + 1 ∧ i < 3) (y : Int) : CEv w (u.setCell ⟨k, i, none⟩ (.int .i64 y)) p a bs c v l z eb x := by
  have same : ∀ b, b ≠ k → (u.setCell ⟨k, i, none⟩ (.int .i64 y)).heap[b]? = u.heap[b]? := fun b hb => Below.heap_setCell u ⟨k, i, none⟩ _ b hb
  obtain ⟨ls, l1, l2⟩ := h.st.rl
  obtain ⟨vs, v1, v2⟩ := h.st.rv
  have hlo := h.lo
  have hb := same eb (by omega)
  obtain ⟨h0, h1, h2, h3, h4, h5⟩ := h.at_
  refine ⟨⟨ownsO_blk h.st.lo fun q hq => same q (by have := (h.st.lo.lt q hq).1; omega), ?_, ?_, curO_set h.st.cur (by omega), farO_set h.st.far hp (by omega), by simpa using h.st.sz⟩, ⟨(World.cell?_of_block (a := ⟨eb, 0, none⟩) hb).trans h0, (World.cell?_of_block (a := ⟨eb, 1, none⟩) hb).trans h1, (World.cell?_of_block (a := ⟨eb, 2, none⟩) hb).trans h2, (World.cell?_of_block (a := ⟨eb, 3, none⟩) hb).trans h3, (World.cell?_of_block (a := ⟨eb, 4, none⟩) hb).trans h4, (World.cell?_of_block (a := ⟨eb, 5, none⟩) hb).trans h5⟩, fun i => (World.frozen?_of_block (a := ⟨eb, i, none⟩) hb).trans (h.fr i), h.lo, h.ne⟩
  · rcases hk with ⟨rfl, hi⟩ | ⟨rfl, hi⟩
    · exact ⟨ls.set i y, by simp [l1], l2.set (by omega) y⟩
    · exact ⟨ls, l1, l2.blk (same _ (by omega))⟩
  · rcases hk with ⟨rfl, hi⟩ | ⟨rfl, hi⟩
    · exact ⟨vs, v1, v2.blk (same _ (by omega))⟩
    · exact ⟨vs.set i y, by simp [v1], v2.set (by omega) y⟩
theorem CSt.rowL {w u : World} {p : Nat} {a : Option Addr} {bs : List UInt8} {c z : Nat} {v : Value} {l : List Cl} (h : CSt w u p a bs c v l z) {i : Nat} (hi : i < 4) : ∃ y, u.cell? ⟨w.heap.size, i, none⟩ = some (.int .i64 y) ∧ ∀ i, u.frozen? ⟨w.heap.size, i, none⟩ = false := by
  obtain ⟨ls, l1, l2⟩ := h.rl
  exact ⟨_, l2.cell (by omega), fun i => l2.frozen i⟩
theorem CSt.rowV {w u : World} {p : Nat} {a : Option Addr} {bs : List UInt8} {c z : Nat} {v : Value} {l : List Cl} (h : CSt w u p a bs c v l z) {i : Nat} (hi : i < 3) : ∃ y, u.cell? ⟨w.heap.size + 1, i, none⟩ = some (.int .i64 y) ∧ ∀ i, u.frozen? ⟨w.heap.size + 1, i, none⟩ = false := by
  obtain ⟨vs, v1, v2⟩ := h.rv
  exact ⟨_, v2.cell (by omega), fun i => v2.frozen i⟩
/-- The new box. -/
theorem CEv.new {w u : World} {p : Nat} {a : Option Addr} {bs : List UInt8} {c z : Nat} {v : Value} {l : List Cl} (h : CSt w u p a bs c v l z) (hp : p < w.heap.size) (x : Cl) : CEv w (u.alloc (.cells #[.int .i64 x.client, .int .i64 x.object, .bool x.write, .int .i64 x.value, .int .i64 x.beg, .int .i64 x.fin] 53)) p a bs c v l z u.heap.size x := by
  have hB : Below u.heap.size u (u.alloc (.cells #[.int .i64 x.client, .int .i64 x.object, .bool x.write, .int .i64 x.value, .int .i64 x.beg, .int .i64 x.fin] 53)) := (Below.refl _ _).alloc (Nat.le_refl _) _
  have hs := h.sz
  exact ⟨h.step hp (Far.of_below hB (by omega)) (h.cur.below hB), ⟨by simp [go_sem], by simp [go_sem], by simp [go_sem], by simp [go_sem], by simp [go_sem], by simp [go_sem]⟩, fun i => by simp [go_sem], hs, fun e => by have := (h.lo.lt _ e).2; omega⟩
theorem curO_keep {u w6 : World} {p B : Nat} {a : Option Addr} {bs : List UInt8} {c z : Nat} (h2 : Cur u p a bs c z) (hp : p < B) (hB : Below B u w6) : Cur w6 p a bs c z := by
  have hb := hB.block p hp
  obtain ⟨s, hs2⟩ := h2.c2
  exact ⟨(World.cell?_of_block (a := ⟨p, 0, none⟩) hb).trans h2.c0, (World.cell?_of_block (a := ⟨p, 1, none⟩) hb).trans h2.c1, ⟨s, (World.cell?_of_block (a := ⟨p, 2, none⟩) hb).trans hs2⟩, fun i => (World.frozen?_of_block (a := ⟨p, i, none⟩) hb).trans (h2.f i), h2.by_.of_block (fun b hi => hB.block b (by have := h2.lo b hi; omega)), h2.lo, h2.sm⟩
/-- One more. -/
theorem CSt.push {w u w5 : World} {p : Nat} {a : Option Addr} {bs : List UInt8} {c z : Nat} {v v' : Value} {l : List Cl} {x : Cl} (h : CSt w u p a bs c v l z) (hp : p < w.heap.size)
    (hown : w5.ownsRow (w.heap.size + 2) 53 6 v' (l.length + 1) (l.flatMap clC ++ clC x)) (hgrow : u.grownBy w5 v.ownBlock) : CSt w w5 p a bs c v' (l ++ [x]) z := by
  have hs := h.sz
  have hB : Below (w.heap.size + 2) u w5 := (Below.refl _ _).grown hgrow hs (fun k hk => (h.lo.lt k hk).1)
  obtain ⟨ls, l1, l2⟩ := h.rl
  obtain ⟨vs, v1, v2⟩ := h.rv
  refine ⟨?_, ⟨ls, l1, l2.blk (hB.block _ (by omega))⟩, ⟨vs, v1, v2.blk (hB.block _ (by omega))⟩, curO_keep h.cur (by omega) hB, ⟨h.far.bel.trans (hB.mono (by omega)), fun b hb hne => (hB.block b (by omega)).trans (h.far.blk b hb hne)⟩, Nat.le_trans hs hB.size⟩
  rw [List.length_append, List.flatMap_append]
  simp only [List.length_singleton, List.flatMap_cons, List.flatMap_nil, List.append_nil]
  exact hown

end Go.Proofs.YtmbfdonefpegeaaDoor
