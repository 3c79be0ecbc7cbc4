/-
  Drawn events: spec.(*l1Cur).events.
-/
import Derived.Test.YtiabgomeogcpnaaDoorEvs
import Derived.Test.YtiabgomeogcpnaaDoorCur2
import Derived.Test.YtiabgomeogcpnaaDoorAppZ
namespace Go.Proofs.YtiabgomeogcpnaaDoor
open Go.RowKit

/-- One event as its cells. -/
def evC (e : Ev) : List Value := [.int .i64 e.pr, .int .i64 e.kd, .int .i64 e.ms]
theorem evC_len (e : Ev) : (evC e).length = 3 := rfl
theorem evC_one (e : Ev) : ∀ u ∈ evC e, u.oneCell' = true := fun u hu => by
  simp only [evC, List.mem_cons, List.not_mem_nil, or_false] at hu
  rcases hu with rfl | rfl | rfl <;> rfl
theorem evCs_one (l : List Ev) : ∀ u ∈ l.flatMap evC, u.oneCell' = true := fun u hu => by
  obtain ⟨e, -, he⟩ := List.mem_flatMap.1 hu
  exact evC_one e u he

/-- While events are drawn: the row of all and the row of those that wait, apart, and the cursor. -/
structure E2 (w wr : World) (p : Nat) (a : Option Addr) (bs : List UInt8) (c : Nat) (v : Value) (ls : List Ev) (wv : Value) (ws : List Ev) (z : Nat) : Prop where
  lo : wr.ownsRow w.heap.size 58 3 v ls.length (ls.flatMap evC)
  wo : wr.ownsRow w.heap.size 58 3 wv ws.length (ws.flatMap evC)
  ap : ∀ b, v.ownBlock = some b → wv.ownBlock ≠ some b
  cur : Cur wr p a bs c z
  far : Far p w wr

theorem owns_blkE {w w' : World} {B : Nat} {e : TypeId} {size : Nat} {v : Value} {n : Nat} {xs : List Value} (h : w.ownsRow B e size v n xs) (hs : ∀ q, v.ownBlock = some q → w'.heap[q]? = w.heap[q]?) : w'.ownsRow B e size v n xs := by
  obtain ⟨h1, h2 | ⟨g, cap, cur, hv, hg, hh, r⟩⟩ := h
  · exact ⟨h1, .inl h2⟩
  · exact ⟨h1, .inr ⟨g, cap, cur, hv, hg, (hs g (by rw [hv]; rfl)).trans hh, r⟩⟩

theorem owns_farE {w wr u : World} {p : Nat} {e : TypeId} {size n : Nat} {v : Value} {xs : List Value} (h : wr.ownsRow w.heap.size e size v n xs) (hf : Far p wr u) (hp : p < w.heap.size) : u.ownsRow w.heap.size e size v n xs :=
  owns_blkE h fun q hq => hf.blk q (h.lt q hq).2 (by have := (h.lt q hq).1; omega)

theorem E2.step {w wr u : World} {p : Nat} {a : Option Addr} {bs : List UInt8} {c z z1 : Nat} {v wv : Value} {ls ws : List Ev} (h : E2 w wr p a bs c v ls wv ws z) (hp : p < w.heap.size) (hf : Far p wr u) (hc : Cur u p a bs c z1) : E2 w u p a bs c v ls wv ws z1 :=
  ⟨owns_farE h.lo hf hp, owns_farE h.wo hf hp, h.ap, hc, h.far.trans hf⟩

theorem cur_keepE {u w6 : World} {p B : Nat} {a : Option Addr} {bs : List UInt8} {c z : Nat} (h2 : Cur u p a bs c z) (hp : p < B) (hB : Below B u w6) : Cur w6 p a bs c z := by
  have hb := hB.block p hp
  obtain ⟨s, hs2⟩ := h2.c2
  exact ⟨(World.cell?_of_block (a := ⟨p, 0, none⟩) hb).trans h2.c0, (World.cell?_of_block (a := ⟨p, 1, none⟩) hb).trans h2.c1, ⟨s, (World.cell?_of_block (a := ⟨p, 2, none⟩) hb).trans hs2⟩, fun i => (World.frozen?_of_block (a := ⟨p, i, none⟩) hb).trans (h2.f i), h2.by_.of_block (fun b hi => hB.block b (by have := h2.lo b hi; omega)), h2.lo, h2.sm⟩

theorem E2.pushL {w u w5 : World} {p : Nat} {a : Option Addr} {bs : List UInt8} {c z : Nat} {v v' wv : Value} {ls ws : List Ev} {e : Ev} (h : E2 w u p a bs c v ls wv ws z) (hp : p < w.heap.size)
    (hown : w5.ownsRow w.heap.size 58 3 v' (ls.length + 1) (ls.flatMap evC ++ evC e)) (hgrow : u.grownBy w5 v.ownBlock) (hnew : ∀ b, v'.ownBlock = some b → v.ownBlock = some b ∨ b = u.heap.size) :
    E2 w w5 p a bs c v' (ls ++ [e]) wv ws z := by
  have hz := h.far.bel.size
  have hB : Below w.heap.size u w5 := (Below.refl _ _).grown hgrow hz (fun k hk => (h.lo.lt k hk).1)
  refine ⟨?_, owns_blkE h.wo fun q hq => hgrow.block q (h.wo.lt q hq).2 (fun e => h.ap q e.symm hq), fun b hb hw => ?_, cur_keepE h.cur hp hB, ⟨h.far.bel.trans (hB.mono (by omega)), fun b hb hne => (hB.block b hb).trans (h.far.blk b hb hne)⟩⟩
  · rw [List.length_append, List.flatMap_append]
    simp only [List.length_singleton, List.flatMap_cons, List.flatMap_nil, List.append_nil]
    exact hown
  · rcases hnew b hb with hb | hb
    · exact h.ap b hb hw
    · have := (h.wo.lt b hw).2; omega

theorem E2.swap {w u : World} {p : Nat} {a : Option Addr} {bs : List UInt8} {c z : Nat} {v wv : Value} {ls ws : List Ev} (h : E2 w u p a bs c v ls wv ws z) : E2 w u p a bs c wv ws v ls z :=
  ⟨h.wo, h.lo, fun b h1 h2 => h.ap b h2 h1, h.cur, h.far⟩

theorem E2.pushW {w u w5 : World} {p : Nat} {a : Option Addr} {bs : List UInt8} {c z : Nat} {v v' wv : Value} {ls ws : List Ev} {e : Ev} (h : E2 w u p a bs c v ls wv ws z) (hp : p < w.heap.size)
    (hown : w5.ownsRow w.heap.size 58 3 v' (ws.length + 1) (ws.flatMap evC ++ evC e)) (hgrow : u.grownBy w5 wv.ownBlock) (hnew : ∀ b, v'.ownBlock = some b → wv.ownBlock = some b ∨ b = u.heap.size) :
    E2 w w5 p a bs c v ls v' (ws ++ [e]) z := (h.swap.pushL hp hown hgrow hnew).swap

theorem E2.freshW {w u w5 : World} {p : Nat} {a : Option Addr} {bs : List UInt8} {c z : Nat} {v v' wv : Value} {ls ws ws' : List Ev} (h : E2 w u p a bs c v ls wv ws z) (hp : p < w.heap.size)
    (hB : Below u.heap.size u w5) (hown : w5.ownsRow u.heap.size 58 3 v' ws'.length (ws'.flatMap evC)) : E2 w w5 p a bs c v ls v' ws' z := by
  have hz := h.far.bel.size
  have h2 := h.step hp (Far.of_below hB (by omega)) (cur_keepE h.cur (by omega) hB)
  refine ⟨h2.lo, ?_, fun b h1 h3 => ?_, h2.cur, h2.far⟩
  · obtain ⟨o1, o2⟩ := hown
    exact ⟨o1, o2.imp id fun ⟨g', cap', cur, hv, hg, r⟩ => ⟨g', cap', cur, hv, by omega, r⟩⟩
  · have := (h.lo.lt b h1).2
    have := (hown.lt b h3).1
    omega

/-- The events of a row that a call owns. -/
theorem evs_of_owns {w : World} {B : Nat} {a : Option Addr} {c : Nat} {l : List Ev} (h : w.ownsRow B 58 3 (.slice a l.length c) l.length (l.flatMap evC)) : Evs w a l ∧ l.length ≤ c := by
  by_cases h0 : l.length = 0
  · obtain rfl : l = [] := List.eq_nil_of_length_eq_zero h0
    exact ⟨Evs.nil _ _, by simp⟩
  · obtain ⟨g, cap, f, hv, hg, hn, ⟨cur, hh, hcs, hf⟩, hx⟩ := row_of_ownsZ h (by omega)
    simp only [Value.slice.injEq] at hv
    obtain ⟨rfl, -, rfl⟩ := hv
    refine ⟨fun i e hi => ⟨g, 0, rfl, ?_⟩, hn⟩
    have hlt := (List.getElem?_eq_some_iff.1 hi).1
    have key : ∀ r x, r < 3 → (evC e)[r]? = some x → w.cell? ⟨g, 0 + i * 3 + r, none⟩ = some x := fun r x hr hx2 => by
      have h1 := flatZ_get (C := evC) (s := 3) evC_len l i r e hi hr
      rw [hx2, hx _ (by omega)] at h1
      have h2 : i * 3 + r < c * 3 := by omega
      have h3 := hf _ h2
      have h4 : 0 + i * 3 + r = i * 3 + r := by omega
      rw [h4]
      simp only [World.cell?, hh, h3]
      exact h1
    exact ⟨key 0 _ (by omega) rfl, key 1 _ (by omega) rfl, key 2 _ (by omega) rfl⟩

end Go.Proofs.YtiabgomeogcpnaaDoor
