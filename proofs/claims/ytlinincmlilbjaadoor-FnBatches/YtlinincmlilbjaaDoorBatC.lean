/-
  A drawn batch: the boxes and the row of spec.(*l1Cur).batch.
-/
import Derived.Test.YtlinincmlilbjaaDoorCurO
import Derived.Test.YtlinincmlilbjaaDoorTake2
import Derived.Test.YtlinincmlilbjaaDoorLogs2J
import Derived.Deep.AppendLies
namespace Go.Proofs.YtlinincmlilbjaaDoor
open Go.RowKit

theorem ownsB_of_block {w w' : World} {B : Nat} {e : TypeId} {size : Nat} {v : Value} {n : Nat} {xs : List Value} (h : w.ownsRow B e size v n xs) (hs : ∀ q, v.ownBlock = some q → w'.heap[q]? = w.heap[q]?) : w'.ownsRow B e size v n xs := by
  obtain ⟨h1, h2 | ⟨g, cap, cur, hv, hg, hh, r⟩⟩ := h
  · exact ⟨h1, .inl h2⟩
  · exact ⟨h1, .inr ⟨g, cap, cur, hv, hg, (hs g (by rw [hv]; rfl)).trans hh, r⟩⟩
theorem curB_set {u : World} {p : Nat} {a : Option Addr} {bs : List UInt8} {c z g i : Nat} {v : Value} (h : Cur u p a bs c z) (hg : p < g) : Cur (u.setCell ⟨g, i, none⟩ v) p a bs c z := by
  have same : ∀ b, b ≠ g → (u.setCell ⟨g, i, none⟩ v).heap[b]? = u.heap[b]? := fun b hb => Below.heap_setCell u ⟨g, i, none⟩ v b hb
  have hb := same p (by omega)
  obtain ⟨s, hs2⟩ := h.c2
  exact ⟨(World.cell?_of_block (a := ⟨p, 0, none⟩) hb).trans h.c0, (World.cell?_of_block (a := ⟨p, 1, none⟩) hb).trans h.c1, ⟨s, (World.cell?_of_block (a := ⟨p, 2, none⟩) hb).trans hs2⟩, fun i => (World.frozen?_of_block (a := ⟨p, i, none⟩) hb).trans (h.f i), h.by_.of_block (fun b hi => same b (by have := h.lo b hi; omega)), h.lo, h.sm⟩
theorem farB_set {w u : World} {p g i : Nat} {v : Value} (h : Far p w u) (hp : p < w.heap.size) (hg : w.heap.size ≤ g) : Far p w (u.setCell ⟨g, i, none⟩ v) :=
  ⟨Below.setCell h.bel (p := ⟨g, i, none⟩) (by show p ≤ g; omega) v, fun b hb hne => (Below.heap_setCell u ⟨g, i, none⟩ v b (by show b ≠ g; omega)).trans (h.blk b hb hne)⟩
theorem curB_keep {u w6 : World} {p B : Nat} {a : Option Addr} {bs : List UInt8} {c z : Nat} (h2 : Cur u p a bs c z) (hp : p < B) (hB : Below B u w6) : Cur w6 p a bs c z := by
  have hb := hB.block p hp
  obtain ⟨s, hs2⟩ := h2.c2
  exact ⟨(World.cell?_of_block (a := ⟨p, 0, none⟩) hb).trans h2.c0, (World.cell?_of_block (a := ⟨p, 1, none⟩) hb).trans h2.c1, ⟨s, (World.cell?_of_block (a := ⟨p, 2, none⟩) hb).trans hs2⟩, fun i => (World.frozen?_of_block (a := ⟨p, i, none⟩) hb).trans (h2.f i), h2.by_.of_block (fun b hi => hB.block b (by have := h2.lo b hi; omega)), h2.lo, h2.sm⟩

theorem get_getD {cs : Array Value} {i : Nat} (h : i < cs.size) : cs[i]? = some (cs.getD i undef) := by
  simp [h]

theorem ints3 (w : World) (x y z : Int) (t : TypeId) : Ints (w.alloc (.cells #[.int .i64 x, .int .i64 y, .int .i64 z] t)) (some ⟨w.heap.size, 0, none⟩) [x, y, z] := fun i v hi => by
  refine ⟨w.heap.size, 0, rfl, ?_⟩
  rcases (by have := (List.getElem?_eq_some_iff.1 hi).1; simp at this; omega : i = 0 ∨ i = 1 ∨ i = 2) with rfl | rfl | rfl
  all_goals
    simp at hi
    subst hi
    simp [go_sem]

/-- The box of a batch. -/
structure BoxB (w : World) (eb : Nat) (x : Bt) (v : Value) : Prop where
  row : ∃ f, w.rowIs eb 25 5 f ∧ f 0 = .int .i64 x.off ∧ f 1 = .int .i64 x.ep ∧ f 2 = .int .i64 x.pr ∧ f 3 = .int .i64 x.sq ∧ f 4 = v
theorem BoxB.of_block {w w' : World} {eb : Nat} {x : Bt} {v : Value} (h : BoxB w eb x v) (hb : w'.heap[eb]? = w.heap[eb]?) : BoxB w' eb x v := by
  obtain ⟨f, h1, h2⟩ := h.row
  exact ⟨f, h1.of_block hb, h2⟩
theorem BoxB.lt {w : World} {eb : Nat} {x : Bt} {v : Value} (h : BoxB w eb x v) : eb < w.heap.size := by
  obtain ⟨f, h1, -⟩ := h.row
  exact h1.lt
theorem BoxB.below {w w' : World} {eb : Nat} {x : Bt} {v : Value} (h : BoxB w eb x v) (hb : Below w.heap.size w w') : BoxB w' eb x v := h.of_block (hb.block _ h.lt)
theorem BoxB.fr {w : World} {eb : Nat} {x : Bt} {v : Value} (h : BoxB w eb x v) (i : Nat) : w.frozen? ⟨eb, i, none⟩ = false := by
  obtain ⟨f, h1, -⟩ := h.row
  exact h1.frozen i
theorem BoxB.at_ {w : World} {eb : Nat} {x : Bt} {v : Value} (h : BoxB w eb x v) : w.cell? ⟨eb, 0, none⟩ = some (.int .i64 x.off) ∧ w.cell? ⟨eb, 1, none⟩ = some (.int .i64 x.ep) ∧ w.cell? ⟨eb, 2, none⟩ = some (.int .i64 x.pr) ∧ w.cell? ⟨eb, 3, none⟩ = some (.int .i64 x.sq) ∧ w.cell? ⟨eb, 4, none⟩ = some v := by
  obtain ⟨f, h1, e0, e1, e2, e3, e4⟩ := h.row
  exact ⟨by rw [h1.cell (by omega), e0], by rw [h1.cell (by omega), e1], by rw [h1.cell (by omega), e2], by rw [h1.cell (by omega), e3], by rw [h1.cell (by omega), e4]⟩
theorem BoxB.set0 {w : World} {eb : Nat} {x : Bt} {v : Value} (h : BoxB w eb x v) (y : Int) : BoxB (w.setCell ⟨eb, 0, none⟩ (.int .i64 y)) eb ⟨y, x.ep, x.pr, x.sq, x.recs⟩ v := by
  obtain ⟨f, h1, e0, e1, e2, e3, e4⟩ := h.row
  exact ⟨_, h1.set 0 _, by simp, by simp [e1], by simp [e2], by simp [e3], by simp [e4]⟩
theorem BoxB.set1 {w : World} {eb : Nat} {x : Bt} {v : Value} (h : BoxB w eb x v) (y : Int) : BoxB (w.setCell ⟨eb, 1, none⟩ (.int .i64 y)) eb ⟨x.off, y, x.pr, x.sq, x.recs⟩ v := by
  obtain ⟨f, h1, e0, e1, e2, e3, e4⟩ := h.row
  exact ⟨_, h1.set 1 _, by simp [e0], by simp, by simp [e2], by simp [e3], by simp [e4]⟩
theorem BoxB.set4 {w : World} {eb : Nat} {x : Bt} {v : Value} (h : BoxB w eb x v) (v' : Value) (l : List ByteArray) : BoxB (w.setCell ⟨eb, 4, none⟩ v') eb ⟨x.off, x.ep, x.pr, x.sq, l⟩ v' := by
  obtain ⟨f, h1, e0, e1, e2, e3, e4⟩ := h.row
  exact ⟨_, h1.set 4 _, by simp [e0], by simp [e1], by simp [e2], by simp [e3], by simp⟩
theorem BoxB.new (u : World) (x : Bt) (v : Value) : BoxB (u.alloc (.cells #[.int .i64 x.off, .int .i64 x.ep, .int .i64 x.pr, .int .i64 x.sq, v] 25)) u.heap.size x v :=
  ⟨fun i => (#[.int .i64 x.off, .int .i64 x.ep, .int .i64 x.pr, .int .i64 x.sq, v] : Array Value).getD i undef, World.rowIs_alloc u _ _ _ (fun _ hi => get_getD hi), rfl, rfl, rfl, rfl, rfl⟩

/-- While a batch is drawn: the result's box, the batch's box, its records' row, the cursor. -/
structure BSt (w wr : World) (p : Nat) (a : Option Addr) (bs : List UInt8) (c eb : Nat) (x : Bt) (ra : Option Addr) (rc z : Nat) : Prop where
  r0 : ∃ f, wr.rowIs w.heap.size 25 5 f
  bx : BoxB wr eb x (.slice ra x.recs.length rc)
  own : wr.ownsRow (eb + 1) 9 1 (.slice ra x.recs.length rc) x.recs.length (strVals x.recs)
  sm : ∀ s, s ∈ x.recs → s.size < 256
  lo : w.heap.size + 1 ≤ eb
  cur : Cur wr p a bs c z
  far : Far p w wr
theorem BSt.sz {w wr : World} {p : Nat} {a : Option Addr} {bs : List UInt8} {c eb : Nat} {x : Bt} {ra : Option Addr} {rc z : Nat} (h : BSt w wr p a bs c eb x ra rc z) : eb + 1 ≤ wr.heap.size := h.bx.lt
theorem BSt.step {w wr u : World} {p : Nat} {a : Option Addr} {bs : List UInt8} {c eb : Nat} {x : Bt} {ra : Option Addr} {rc z z1 : Nat} (h : BSt w wr p a bs c eb x ra rc z) (hp : p < w.heap.size) (hf : Far p wr u) (hc : Cur u p a bs c z1) : BSt w u p a bs c eb x ra rc z1 := by
  have hs := h.sz
  have hlo := h.lo
  obtain ⟨f, r0⟩ := h.r0
  exact ⟨⟨f, r0.of_block (hf.blk _ (by omega) (by omega))⟩, h.bx.of_block (hf.blk _ (by omega) (by omega)), ownsB_of_block h.own fun q hq => hf.blk q (h.own.lt q hq).2 (by have := (h.own.lt q hq).1; omega), h.sm, h.lo, hc, h.far.trans hf⟩
theorem BSt.drew {w wr u : World} {p : Nat} {a : Option Addr} {bs : List UInt8} {c eb : Nat} {x : Bt} {ra : Option Addr} {rc z : Nat} (h : BSt w wr p a bs c eb x ra rc z) (hp : p < w.heap.size) (hd : Drew wr p a bs c z u) : ∃ z1, z1 ≤ z + 2 ∧ BSt w u p a bs c eb x ra rc z1 := by
  obtain ⟨z1, h1, h2, h3⟩ := hd
  exact ⟨z1, h1, h.step hp h3 h2⟩
theorem BSt.below {w wr u : World} {p : Nat} {a : Option Addr} {bs : List UInt8} {c eb : Nat} {x : Bt} {ra : Option Addr} {rc z : Nat} (h : BSt w wr p a bs c eb x ra rc z) (hp : p < w.heap.size) (hb : Below wr.heap.size wr u) : BSt w u p a bs c eb x ra rc z :=
  h.step hp (Far.of_below hb (by have := h.sz; have := h.lo; omega)) (h.cur.below hb)
theorem BSt.box {w wr : World} {p i : Nat} {a : Option Addr} {bs : List UInt8} {c eb : Nat} {x x' : Bt} {ra : Option Addr} {rc z : Nat} {y : Value} (h : BSt w wr p a bs c eb x ra rc z) (hp : p < w.heap.size) (hr : x'.recs = x.recs)
    (hx : BoxB (wr.setCell ⟨eb, i, none⟩ y) eb x' (.slice ra x.recs.length rc)) : BSt w (wr.setCell ⟨eb, i, none⟩ y) p a bs c eb x' ra rc z := by
  have same : ∀ b, b ≠ eb → (wr.setCell ⟨eb, i, none⟩ y).heap[b]? = wr.heap[b]? := fun b hb => Below.heap_setCell wr ⟨eb, i, none⟩ y b hb
  obtain ⟨f, r0⟩ := h.r0
  have hlo := h.lo
  exact ⟨⟨f, r0.of_block (same _ (by omega))⟩, by rw [hr]; exact hx, by rw [hr]; exact ownsB_of_block h.own fun q hq => same q (by have := (h.own.lt q hq).1; omega), by rw [hr]; exact h.sm, h.lo, curB_set h.cur (by omega), farB_set h.far hp (by omega)⟩
theorem BSt.set0 {w wr : World} {p : Nat} {a : Option Addr} {bs : List UInt8} {c eb : Nat} {x : Bt} {ra : Option Addr} {rc z : Nat} (h : BSt w wr p a bs c eb x ra rc z) (hp : p < w.heap.size) (y : Int) : BSt w (wr.setCell ⟨eb, 0, none⟩ (.int .i64 y)) p a bs c eb ⟨y, x.ep, x.pr, x.sq, x.recs⟩ ra rc z :=
  h.box hp rfl (h.bx.set0 y)
theorem BSt.set1 {w wr : World} {p : Nat} {a : Option Addr} {bs : List UInt8} {c eb : Nat} {x : Bt} {ra : Option Addr} {rc z : Nat} (h : BSt w wr p a bs c eb x ra rc z) (hp : p < w.heap.size) (y : Int) : BSt w (wr.setCell ⟨eb, 1, none⟩ (.int .i64 y)) p a bs c eb ⟨x.off, y, x.pr, x.sq, x.recs⟩ ra rc z :=
  h.box hp rfl (h.bx.set1 y)
/-- No records. -/
theorem BSt.none_ {w wr : World} {p : Nat} {a : Option Addr} {bs : List UInt8} {c eb : Nat} {x : Bt} {ra : Option Addr} {rc z : Nat} (h : BSt w wr p a bs c eb x ra rc z) (hp : p < w.heap.size) : BSt w (wr.setCell ⟨eb, 4, none⟩ (.slice none 0 0)) p a bs c eb ⟨x.off, x.ep, x.pr, x.sq, []⟩ none 0 z := by
  have same : ∀ b, b ≠ eb → (wr.setCell ⟨eb, 4, none⟩ (.slice none 0 0)).heap[b]? = wr.heap[b]? := fun b hb => Below.heap_setCell wr ⟨eb, 4, none⟩ _ b hb
  obtain ⟨f, r0⟩ := h.r0
  have hlo := h.lo
  exact ⟨⟨f, r0.of_block (same _ (by omega))⟩, h.bx.set4 _ [], World.ownsRow_nil _ _ _ _, fun s hs => by simp at hs, h.lo, curB_set h.cur (by omega), farB_set h.far hp (by omega)⟩
/-- One record more. -/
theorem BSt.push {w u w5 : World} {p g cap : Nat} {a : Option Addr} {bs : List UInt8} {c eb : Nat} {x : Bt} {ra : Option Addr} {rc z : Nat} {s : ByteArray} (h : BSt w u p a bs c eb x ra rc z) (hp : p < w.heap.size)
    (hown : w5.ownsRow (eb + 1) 9 1 (.slice (some ⟨g, 0, none⟩) (x.recs.length + 1) cap) (x.recs.length + 1) (strVals x.recs ++ [.string s])) (hgrow : u.grownBy w5 (Value.slice ra x.recs.length rc).ownBlock) (hs : s.size < 256) :
    BSt w (w5.setCell ⟨eb, 4, none⟩ (.slice (some ⟨g, 0, none⟩) (x.recs.length + 1) cap)) p a bs c eb ⟨x.off, x.ep, x.pr, x.sq, x.recs ++ [s]⟩ (some ⟨g, 0, none⟩) cap z := by
  have hz := h.sz
  have hlo := h.lo
  have hB : Below (eb + 1) u w5 := (Below.refl _ _).grown hgrow hz (fun k hk => (h.own.lt k hk).1)
  have same : ∀ b, b ≠ eb → (w5.setCell ⟨eb, 4, none⟩ (.slice (some ⟨g, 0, none⟩) (x.recs.length + 1) cap)).heap[b]? = w5.heap[b]? := fun b hb => Below.heap_setCell w5 ⟨eb, 4, none⟩ _ b hb
  have e : (x.recs ++ [s]).length = x.recs.length + 1 := by simp
  have e2 : strVals (x.recs ++ [s]) = strVals x.recs ++ [.string s] := by simp [strVals]
  obtain ⟨f, r0⟩ := h.r0
  refine ⟨⟨f, (r0.of_block (hB.block _ (by omega))).of_block (same _ (by omega))⟩, ?_, ?_, ?_, h.lo, curB_set (curB_keep h.cur (by omega) hB) (by omega), farB_set ⟨h.far.bel.trans (hB.mono (by omega)), fun b hb hne => (hB.block b (by omega)).trans (h.far.blk b hb hne)⟩ hp (by omega)⟩
  · simp only [e]
    exact (h.bx.of_block (hB.block _ (by omega))).set4 _ _
  · simp only [e, e2]
    exact ownsB_of_block hown fun q hq => same q (by have := (hown.lt q hq).1; omega)
  · intro t ht
    rcases List.mem_append.1 ht with ht | ht
    · exact h.sm t ht
    · obtain rfl := List.mem_singleton.1 ht
      exact hs
/-- The first record put anew. -/
theorem BSt.first {w u : World} {p : Nat} {a : Option Addr} {bs : List UInt8} {c eb : Nat} {x : Bt} {ra : Option Addr} {rc z : Nat} (s : ByteArray) (h : BSt w u p a bs c eb x ra rc z) (hp : p < w.heap.size) (h0 : 0 < x.recs.length) (hs : s.size < 256) :
    ∃ g, ra = some ⟨g, 0, none⟩ ∧ (∃ y, u.cell? ⟨g, 0, none⟩ = some y) ∧ (∀ o, u.frozen? ⟨g, o, none⟩ = false) ∧ BSt w (u.setCell ⟨g, 0, none⟩ (.string s)) p a bs c eb ⟨x.off, x.ep, x.pr, x.sq, x.recs.set 0 s⟩ (some ⟨g, 0, none⟩) rc z := by
  obtain ⟨h1, ⟨hv, h2⟩ | ⟨g, cap, cur, hv, hg, hh, hnc, hcap, hcs, ht⟩⟩ := h.own
  · omega
  simp only [Value.slice.injEq] at hv
  obtain ⟨rfl, -, rfl⟩ := hv
  have hz := h.sz
  have hlo := h.lo
  have same : ∀ b, b ≠ g → (u.setCell ⟨g, 0, none⟩ (.string s)).heap[b]? = u.heap[b]? := fun b hb => Below.heap_setCell u ⟨g, 0, none⟩ _ b hb
  have hR : u.rowIs g 9 (rc * 1) (fun j => cur.getD j undef) := ⟨cur, hh, hcs, fun _ hi => get_getD (by omega)⟩
  have e : (x.recs.set 0 s).length = x.recs.length := by simp
  obtain ⟨f, r0⟩ := h.r0
  refine ⟨g, rfl, ⟨_, hR.cell (by omega)⟩, fun o => hR.frozen o, ⟨f, r0.of_block (same _ (by omega))⟩, ?_, ?_, ?_, h.lo, curB_set h.cur (by omega), farB_set h.far hp (by omega)⟩
  · simp only [e]
    obtain ⟨f, b1, b2⟩ := h.bx.row
    exact ⟨f, b1.of_block (same _ (by omega)), b2⟩
  · simp only [e]
    obtain ⟨cur2, k1, k2, k3⟩ := hR.set 0 (.string s)
    refine ⟨by simp [strVals], .inr ⟨g, rc, cur2, rfl, hg, k1, hnc, hcap, k2, ?_⟩⟩
    refine List.ext_getElem? fun i => ?_
    by_cases hi : i < x.recs.length
    · rw [List.getElem?_take_of_lt (by omega)]
      have h3 := k3 i (by omega)
      rw [Array.getElem?_toList, h3]
      simp only
      by_cases e0 : i = 0
      · subst e0
        simp only [if_true]
        simp [strVals, h0]
      · rw [if_neg e0]
        have h4 : (strVals x.recs)[i]? = some (cur.getD i undef) := by
          rw [← ht, List.getElem?_take_of_lt (by omega)]
          have : i < cur.size := by omega
          simp [this]
        rw [← h4]
        simp [strVals, Ne.symm e0]
    · rw [List.getElem?_eq_none (by simp; omega), List.getElem?_eq_none (by simp [strVals]; omega)]
  · intro t ht2
    rcases List.mem_or_eq_of_mem_set ht2 with h5 | rfl
    · exact h.sm t h5
    · exact hs
/-- A store into the result's box. -/
theorem BSt.put {w u : World} {p : Nat} {a : Option Addr} {bs : List UInt8} {c eb : Nat} {x : Bt} {ra : Option Addr} {rc z : Nat} (h : BSt w u p a bs c eb x ra rc z) (hp : p < w.heap.size) (i : Nat) (y : Value) : BSt w (u.setCell ⟨w.heap.size, i, none⟩ y) p a bs c eb x ra rc z := by
  have same : ∀ b, b ≠ w.heap.size → (u.setCell ⟨w.heap.size, i, none⟩ y).heap[b]? = u.heap[b]? := fun b hb => Below.heap_setCell u ⟨w.heap.size, i, none⟩ y b hb
  have hlo := h.lo
  obtain ⟨f, r0⟩ := h.r0
  exact ⟨⟨_, r0.set i y⟩, h.bx.of_block (same _ (by omega)), ownsB_of_block h.own fun q hq => same q (by have := (h.own.lt q hq).1; omega), h.sm, hlo, curB_set h.cur (by omega), farB_set h.far hp (by omega)⟩
theorem BSt.done {w u : World} {p : Nat} {a : Option Addr} {bs : List UInt8} {c eb : Nat} {x : Bt} {ra : Option Addr} {rc z : Nat} (h : BSt w u p a bs c eb x ra rc z) (hp : p < w.heap.size) :
    BSt w (((((u.setCell ⟨w.heap.size, 0, none⟩ (.int .i64 x.off)).setCell ⟨w.heap.size, 1, none⟩ (.int .i64 x.ep)).setCell ⟨w.heap.size, 2, none⟩ (.int .i64 x.pr)).setCell ⟨w.heap.size, 3, none⟩ (.int .i64 x.sq)).setCell ⟨w.heap.size, 4, none⟩ (.slice ra x.recs.length rc)) p a bs c eb x ra rc z :=
  ((((h.put hp 0 _).put hp 1 _).put hp 2 _).put hp 3 _).put hp 4 _
theorem BSt.cells {w u : World} {p : Nat} {a : Option Addr} {bs : List UInt8} {c eb : Nat} {x : Bt} {ra : Option Addr} {rc z : Nat} (h : BSt w u p a bs c eb x ra rc z) : ∃ y0 y1 y2 y3 y4, u.cell? ⟨w.heap.size, 0, none⟩ = some y0 ∧ u.cell? ⟨w.heap.size, 1, none⟩ = some y1 ∧ u.cell? ⟨w.heap.size, 2, none⟩ = some y2 ∧ u.cell? ⟨w.heap.size, 3, none⟩ = some y3 ∧ u.cell? ⟨w.heap.size, 4, none⟩ = some y4 ∧ ∀ i, u.frozen? ⟨w.heap.size, i, none⟩ = false := by
  obtain ⟨f, r0⟩ := h.r0
  exact ⟨_, _, _, _, _, r0.cell (by omega), r0.cell (by omega), r0.cell (by omega), r0.cell (by omega), r0.cell (by omega), fun i => r0.frozen i⟩
theorem BSt.own1 {w u : World} {p : Nat} {a : Option Addr} {bs : List UInt8} {c eb : Nat} {x : Bt} {ra : Option Addr} {rc z : Nat} (h : BSt w u p a bs c eb x ra rc z) : u.ownsRow w.heap.size 9 1 (.slice ra x.recs.length rc) x.recs.length (strVals x.recs) :=
  owns_mono h.own (by have := h.lo; omega)

end Go.Proofs.YtlinincmlilbjaaDoor
