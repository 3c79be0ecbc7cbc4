/-
  A drawn log: spec.(*l1Cur).entries makes some list of numbers, in memory of its own.
  A drawn log, the walk of spec.(*l1Cur).entries.
  Drawn racks and drawn homes: spec.(*l1Cur).racks, spec.(*l1Cur).some, spec.DrawRacksOf.
  Drawn votes: spec.(*l1Cur).votes.
  Drawn votes: spec.(*l1Cur).votes, the walk.
-/
import Derived.Test.YtdibddkhjefmlaaDoorCur2
import Derived.Test.YtdibddkhjefmlaaDoorZCell
import Derived.Laws.OwnMore
import Derived.Test.YtdibddkhjefmlaaDoorVot
import Derived.Test.YtdibddkhjefmlaaDoorQList
import Derived.Deep.RegionHeld3
import Derived.Deep.DeepMust
namespace Go.Proofs.YtdibddkhjefmlaaDoor
open Go.RowKit

theorem owns_far {w w' : World} {B p : Nat} {e : TypeId} {size : Nat} {v : Value} {n : Nat} {xs : List Value} (h : w.ownsRow B e size v n xs) (hf : Far p w w') (hp : p < B) : w'.ownsRow B e size v n xs := by
  obtain ⟨h1, h2 | ⟨g, cap, cur, hv, hg, hh, r⟩⟩ := h
  · exact ⟨h1, .inl h2⟩
  · have hlt := (Array.getElem?_eq_some_iff.1 hh).1
    exact ⟨h1, .inr ⟨g, cap, cur, hv, hg, (hf.blk g hlt (by omega)).trans hh, r⟩⟩

/-- While a list is drawn. -/
structure EnSt (w wr : World) (p : Nat) (a : Option Addr) (bs : List UInt8) (c : Nat) (v : Value) (zs : List Int) (z : Nat) : Prop where
  own : wr.ownsRow w.heap.size 3 1 v zs.length (zCells zs)
  cur : ∃ z', z' ≤ z ∧ Cur wr p a bs c z'
  far : Far p w wr

theorem en_draw {w wr w' : World} {p : Nat} {a : Option Addr} {bs : List UInt8} {c z z0 : Nat} {v : Value} {zs : List Int} (h : EnSt w wr p a bs c v zs z) (hz : z0 ≤ z) (hp : p < w.heap.size) (hd : Drew wr p a bs c z0 w') : EnSt w w' p a bs c v zs (z + 2) := by
  obtain ⟨z', h1, h2, h3⟩ := hd
  exact ⟨owns_far h.own h3 hp, ⟨z', by omega, h2⟩, h.far.trans h3⟩

theorem en_below {w wr w' : World} {p : Nat} {a : Option Addr} {bs : List UInt8} {c z : Nat} {v : Value} {zs : List Int} (h : EnSt w wr p a bs c v zs z) (hp : p < w.heap.size) (hb : Below wr.heap.size wr w') : EnSt w w' p a bs c v zs z := by
  have hs := h.far.bel.size
  obtain ⟨z', h1, h2⟩ := h.cur
  exact ⟨ownsZ_below h.own hb, ⟨z', h1, h2.below hb⟩, h.far.trans (Far.of_below hb (by omega))⟩

/-- A row that the call owns grows: the cursor and what is below stay. -/
theorem en_grown {w wr w' : World} {p : Nat} {a : Option Addr} {bs : List UInt8} {c z g2 cap2 : Nat} {v : Value} {zs : List Int} {y : Int} (h : EnSt w wr p a bs c v zs z) (hp : p < w.heap.size) (hgrow : wr.grownBy w' v.ownBlock)
    (hown : w'.ownsRow w.heap.size 3 1 (.slice (some ⟨g2, 0, none⟩) (zs.length + 1) cap2) (zs.length + 1) (zCells zs ++ [.int .i64 y])) : EnSt w w' p a bs c (.slice (some ⟨g2, 0, none⟩) (zs.length + 1) cap2) (zs ++ [y]) z := by
  have hs := h.far.bel.size
  have hB : Below w.heap.size wr w' := (Below.refl _ _).grown hgrow (by omega) (fun k hk => (h.own.lt k hk).1)
  obtain ⟨z', h1, h2⟩ := h.cur
  refine ⟨?_, ⟨z', h1, ?_⟩, ?_⟩
  · rw [List.length_append, List.length_singleton, zCells_app]; exact hown
  · have hb := hB.block p hp
    obtain ⟨s, hs2⟩ := h2.c2
    exact ⟨(World.cell?_of_block (a := ⟨p, 0, none⟩) hb).trans h2.c0, (World.cell?_of_block (a := ⟨p, 1, none⟩) hb).trans h2.c1, ⟨s, (World.cell?_of_block (a := ⟨p, 2, none⟩) hb).trans hs2⟩, fun i => (World.frozen?_of_block (a := ⟨p, i, none⟩) hb).trans (h2.f i), h2.by_.of_block (fun b hi => hB.block b (by have := h2.lo b hi; omega)), h2.lo, h2.sm⟩
  · exact ⟨h.far.bel.trans (hB.mono (by omega)), fun b hb hne => (hB.block b hb).trans (h.far.blk b hb hne)⟩

end Go.Proofs.YtdibddkhjefmlaaDoor

namespace Go.Proofs.YtdibddkhjefmlaaDoor
open Go.RowKit

theorem en_store {w wr : World} {p : Nat} {a : Option Addr} {bs : List UInt8} {c z g cap x : Nat} {zs : List Int} {y : Int} (h : EnSt w wr p a bs c (.slice (some ⟨g, 0, none⟩) zs.length cap) zs z) (hp : p < w.heap.size) :
    EnSt w (wr.setCell ⟨g, x, none⟩ (.int .i64 y)) p a bs c (.slice (some ⟨g, 0, none⟩) zs.length cap) (zs.set x y) z := by
  obtain ⟨h1, h2⟩ := h.own.stored x (.int .i64 y)
  have hs := h.far.bel.size
  have hg := (h.own.lt g rfl).1
  have hB : Below w.heap.size wr (wr.setCell ⟨g, x, none⟩ (.int .i64 y)) := (Below.refl _ _).setCell hg _
  obtain ⟨z', k1, k2⟩ := h.cur
  refine ⟨?_, ⟨z', k1, ?_⟩, ?_⟩
  · rw [List.length_set]
    have e : zCells (zs.set x y) = (zCells zs).set x (.int .i64 y) := by simp [zCells, List.map_set]
    rw [e]; exact h1
  · have hb := hB.block p hp
    obtain ⟨s, hs2⟩ := k2.c2
    exact ⟨(World.cell?_of_block (a := ⟨p, 0, none⟩) hb).trans k2.c0, (World.cell?_of_block (a := ⟨p, 1, none⟩) hb).trans k2.c1, ⟨s, (World.cell?_of_block (a := ⟨p, 2, none⟩) hb).trans hs2⟩, fun i => (World.frozen?_of_block (a := ⟨p, i, none⟩) hb).trans (k2.f i), k2.by_.of_block (fun b hi => hB.block b (by have := k2.lo b hi; omega)), k2.lo, k2.sm⟩
  · exact ⟨h.far.bel.trans (hB.mono (by omega)), fun b hb hne => (hB.block b hb).trans (h.far.blk b hb hne)⟩

theorem ints_lit (w : World) (zs : List Int) (t : TypeId) : Ints (w.alloc (.cells (zCells zs).toArray t)) (some ⟨w.heap.size, 0, none⟩) zs := fun i z hi => by
  refine ⟨w.heap.size, 0, rfl, ?_⟩
  rw [cell_of_row _ _ _ _ t (0, 0) (heap_alloc_new w _), Nat.zero_add]
  simpa using zCells_get hi

end Go.Proofs.YtdibddkhjefmlaaDoor

namespace Go.Proofs.YtdibddkhjefmlaaDoor
open Go.RowKit

/-- The cursor over code, newly made. -/
theorem cur_newR {w : World} {a : Option Addr} {bs : List UInt8} {c : Nat} (hs : Bys w a bs) (hl : bs.length ≤ 1048576) :
    Cur (w.alloc (.cells #[.slice a bs.length c, .int .i64 0, .int .u64 0] 46)) w.heap.size a bs c 0 := by
  have hb : Below w.heap.size w (w.alloc (.cells #[.slice a bs.length c, .int .i64 0, .int .u64 0] 46)) := (Below.refl _ _).alloc (Nat.le_refl _) _
  refine ⟨by simp, by simp, ⟨0, by simp⟩, fun i => by simp [go_sem], hs.below hb, hs.lt, hl⟩

set_option maxRecDepth 100000 in
set_option maxHeartbeats 4000000 in
theorem some_any (p : Nat) (a : Option Addr) (bs : List UInt8) (c z many : Nat) (w : World) (h : Cur w p a bs c z) (hz : z ≤ 800000000) (hm : many ≤ 1000) :
    Calls Tryd.prog 43 #[.pointer (some ⟨p, 0, none⟩), .int .i64 (many : Int)] w fun e w' => ∃ v zs, e = .returned v ∧ zs.length ≤ many + 1 ∧ EnSt w w' p a bs c v zs (z + 2 * many + 4) := by
  have hp : p < w.heap.size := lt_of_cell h.c0
  obtain ⟨i0, hi, hz0, hz1, hz2⟩ := info_parts Tryd.infoInt
  have st0 : EnSt w w p a bs c (.slice none 0 0) [] z := ⟨World.ownsRow_nil _ _ _ _, ⟨z, Nat.le_refl _, h⟩, Far.refl _ _⟩
  clear h
  go_enter Tryd.func43, Tryd.ntmps43
  go_wp2
  go_loopw [5, 6] (fun v kv wr => ∃ (zs : List Int) (k : Nat), k ≤ many ∧ kv = .int .i64 (k : Int) ∧ zs.length ≤ k ∧ EnSt w wr p a bs c v zs (z + 2 * k)) (fun _ kv _ => many - (intOf kv).toNat)
  case atStart => exact ⟨[], 0, Nat.zero_le _, rfl, Nat.le_refl _, st0⟩
  case round =>
    clear st0
    obtain ⟨zs, k, hk, rfl, hzk, st⟩ := hrel
    obtain ⟨av, cv, rfl⟩ := ownsZ_form st.own
    obtain ⟨z1, hz1', C1⟩ := st.cur
    by_cases hlt : k < many
    · have hki : (k : Int) < (many : Int) := by omega
      go_wp2_with fail
      refine (one_any _ _ _ _ _ _ _ C1 (by omega)).mono ?_
      rintro r w3 ⟨b3, rfl, k3⟩
      have st3 := en_draw st hz1' hp k3
      clear st k3 C1
      have hsz := st3.far.bel.size
      cases b3 with
      | true =>
        have sta : ∀ o, EnSt w (w3.alloc o) p a bs c (.slice av zs.length cv) zs (z + 2 * k + 2) := fun o => en_below st3 hp ((Below.refl _ _).alloc (Nat.le_refl _) o)
        have hws : w.heap.size ≤ w3.heap.size := by have := (st3.own).1; exact Nat.le_trans (by have := st3.far.bel.size; exact this) (Nat.le_refl _)
        go_wp2_with (at_builtin; refine wpList_append_lies _ rfl _ _ 31 rfl w.heap.size 3 i0 _ 1 8 Tryd.underlying31 hi hz0 hz1 hz2 rfl (by decide) (.slice av zs.length cv) zs.length (zCells zs) rfl (sta _).own ⟨w3.heap.size, 0, none⟩ 1 1 [.int .i64 (k : Int)] rfl rfl ?c1 ?c2 (by omega) ?c3 ?c4 ?c5 (w3.heap.size + 1) ?c6 ?_)
        try (case c1 => first | exact (fun j u h => h) | exact World.news_of_block (cs := #[.int .i64 (k : Int)]) (t := 3) (fr := (0, 0)) (by first | exact (heap_alloc_new w3 _) | simpa using (heap_alloc_new w3 _)))
        case c2 => simp [Value.oneCell']
        case c3 => unfold maxLen; omega
        case c4 => omega
        case c5 => first | omega | (simp; omega)
        try (case c6 => simp)
        intro g8 cap8 w8 hown8 hgrow8 hat8 _
        have st8 := en_grown (sta _) hp hgrow8 hown8
        have HS8 : Hid (EnSt w w8 p a bs c (.slice (some ⟨g8, 0, none⟩) (zs.length + 1) cap8) (zs ++ [(k : Int)]) (z + 2 * k + 2)) := st8
        clear st8 hown8 hgrow8 hat8 sta st3
        go_wp2_with fail
        go_roundw
        case rel => exact ⟨zs ++ [(k : Int)], k + 1, by omega, by go_num, by simp; omega, HS8.out⟩
        case measure => simp [intOf]; omega
      | false =>
        have HS3 : Hid (EnSt w w3 p a bs c (.slice av zs.length cv) zs (z + 2 * k + 2)) := st3
        clear st3
        go_wp2
        go_roundw
        case rel => exact ⟨zs, k + 1, by omega, by go_num, by omega, HS3.out⟩
        case measure => simp [intOf]; omega
    · obtain rfl : k = many := by omega
      go_wp2_with fail
      refine (one_any _ _ _ _ _ _ _ C1 (by omega)).mono ?_
      rintro r w3 ⟨b3, rfl, k3⟩
      have st3 := en_draw st hz1' hp k3
      clear st k3 C1
      cases b3 with
      | false =>
        have HS3 : Hid (EnSt w w3 p a bs c (.slice av zs.length cv) zs (z + 2 * k + 2)) := st3
        clear st3
        go_wp2
        go_ret
        exact ⟨_, zs, rfl, by omega, ⟨HS3.out.own, by obtain ⟨z', e1, e2⟩ := HS3.out.cur; exact ⟨z', by omega, e2⟩, HS3.out.far⟩⟩
      | true =>
        obtain ⟨z3, hz3', C3⟩ := st3.cur
        go_wp2_with fail
        refine (pick_any _ _ _ _ _ _ _ C3 (by omega)).mono ?_
        rintro r w4 ⟨y, rfl, hy, k4⟩
        have st4 := en_draw st3 hz3' hp k4
        clear st3 k4 C3
        have hsz := st4.far.bel.size
        have sta : ∀ o, EnSt w (w4.alloc o) p a bs c (.slice av zs.length cv) zs (z + 2 * k + 2 + 2) := fun o => en_below st4 hp ((Below.refl _ _).alloc (Nat.le_refl _) o)
        go_wp2_with (at_builtin; refine wpList_append_lies _ rfl _ _ 31 rfl w.heap.size 3 i0 _ 1 8 Tryd.underlying31 hi hz0 hz1 hz2 rfl (by decide) (.slice av zs.length cv) zs.length (zCells zs) rfl (sta _).own ⟨w4.heap.size, 0, none⟩ 1 1 [.int .i64 (y : Int)] rfl rfl ?c1 ?c2 (by omega) ?c3 ?c4 ?c5 (w4.heap.size + 1) ?c6 ?_)
        try (case c1 => first | exact (fun j u h => h) | exact World.news_of_block (cs := #[.int .i64 (y : Int)]) (t := 3) (fr := (0, 0)) (by first | exact (heap_alloc_new w4 _) | simpa using (heap_alloc_new w4 _)))
        case c2 => simp [Value.oneCell']
        case c3 => unfold maxLen; omega
        case c4 => omega
        case c5 => first | omega | (simp; omega)
        try (case c6 => simp)
        intro g8 cap8 w8 hown8 hgrow8 hat8 _
        have st8 := en_grown (sta _) hp hgrow8 hown8
        have HS8 : Hid (EnSt w w8 p a bs c (.slice (some ⟨g8, 0, none⟩) (zs.length + 1) cap8) (zs ++ [(y : Int)]) (z + 2 * k + 4)) := st8
        clear st8 hown8 hgrow8 hat8 sta st4
        go_wp2_with fail
        go_ret
        exact ⟨_, zs ++ [(y : Int)], rfl, by simp; omega, HS8.out⟩

end Go.Proofs.YtdibddkhjefmlaaDoor

namespace Go.Proofs.YtdibddkhjefmlaaDoor
open Go.RowKit

/-- A drawn list stays while blocks of the call's own turn, but for its own row. -/
theorem en_keep {w wr w' : World} {p : Nat} {a : Option Addr} {bs : List UInt8} {c z : Nat} {v : Value} {zs : List Int} (h : EnSt w wr p a bs c v zs z) (hp : p < w.heap.size) (hB : Below w.heap.size wr w') (hs : ∀ g, v.ownBlock = some g → w'.heap[g]? = wr.heap[g]?) : EnSt w w' p a bs c v zs z := by
  obtain ⟨z', h1, h2⟩ := h.cur
  refine ⟨?_, ⟨z', h1, ?_⟩, ⟨h.far.bel.trans (hB.mono (by omega)), fun b hb hne => (hB.block b hb).trans (h.far.blk b hb hne)⟩⟩
  · obtain ⟨k1, k2 | ⟨g, cap, cur, hv, hg, hh, r⟩⟩ := h.own
    · exact ⟨k1, .inl k2⟩
    · exact ⟨k1, .inr ⟨g, cap, cur, hv, hg, (hs g (by rw [hv]; rfl)).trans hh, r⟩⟩
  · have hb := hB.block p hp
    obtain ⟨s, hs2⟩ := h2.c2
    exact ⟨(World.cell?_of_block (a := ⟨p, 0, none⟩) hb).trans h2.c0, (World.cell?_of_block (a := ⟨p, 1, none⟩) hb).trans h2.c1, ⟨s, (World.cell?_of_block (a := ⟨p, 2, none⟩) hb).trans hs2⟩, fun i => (World.frozen?_of_block (a := ⟨p, i, none⟩) hb).trans (h2.f i), h2.by_.of_block (fun b hi => hB.block b (by have := h2.lo b hi; omega)), h2.lo, h2.sm⟩
/-- The boxes of the votes: the answer's, and the one that is filled. -/
structure VoB (wr : World) (B : Nat) (v : Value) (need : Int) : Prop where
  r0 : ∃ f, wr.rowIs B 77 2 f
  r1 : ∃ f, wr.rowIs (B + 1) 77 2 f ∧ f 0 = v ∧ f 1 = .int .i64 need
theorem VoB.of_block {wr w' : World} {B : Nat} {v : Value} {need : Int} (h : VoB wr B v need) (h0 : w'.heap[B]? = wr.heap[B]?) (h1 : w'.heap[B + 1]? = wr.heap[B + 1]?) : VoB w' B v need := by
  obtain ⟨⟨f, k0⟩, g, k1, k2, k3⟩ := h
  exact ⟨⟨f, k0.of_block h0⟩, g, k1.of_block h1, k2, k3⟩
theorem VoB.lt {wr : World} {B : Nat} {v : Value} {need : Int} (h : VoB wr B v need) : B + 1 < wr.heap.size := by
  obtain ⟨-, g, k1, -⟩ := h
  exact k1.lt
theorem VoB.far {wr w' : World} {B p : Nat} {v : Value} {need : Int} (h : VoB wr B v need) (hf : Far p wr w') (hp : p < B) : VoB w' B v need := by
  have := h.lt
  exact h.of_block (hf.blk _ (by omega) (by omega)) (hf.blk _ (by omega) (by omega))
theorem VoB.below {wr w' : World} {B : Nat} {v : Value} {need : Int} (h : VoB wr B v need) (hb : Below wr.heap.size wr w') : VoB w' B v need := by
  have := h.lt
  exact h.of_block (hb.block _ (by omega)) (hb.block _ (by omega))
theorem VoB.c0 {wr : World} {B : Nat} {v : Value} {need : Int} (h : VoB wr B v need) : wr.cell? ⟨B + 1, 0, none⟩ = some v := by
  obtain ⟨-, g, k1, k2, -⟩ := h
  rw [k1.cell (by omega), k2]
theorem VoB.c1 {wr : World} {B : Nat} {v : Value} {need : Int} (h : VoB wr B v need) : wr.cell? ⟨B + 1, 1, none⟩ = some (.int .i64 need) := by
  obtain ⟨-, g, k1, -, k3⟩ := h
  rw [k1.cell (by omega), k3]
theorem VoB.fr {wr : World} {B : Nat} {v : Value} {need : Int} (h : VoB wr B v need) (i : Nat) : wr.frozen? ⟨B + 1, i, none⟩ = false ∧ wr.frozen? ⟨B, i, none⟩ = false := by
  obtain ⟨⟨f, k0⟩, g, k1, -⟩ := h
  exact ⟨k1.frozen i, k0.frozen i⟩
theorem VoB.set0 {wr : World} {B : Nat} {v : Value} {need : Int} (h : VoB wr B v need) (v' : Value) : VoB (wr.setCell ⟨B + 1, 0, none⟩ v') B v' need := by
  obtain ⟨⟨f, k0⟩, g, k1, k2, k3⟩ := h
  exact ⟨⟨f, k0.of_block (Below.heap_setCell _ ⟨B + 1, _, none⟩ _ B (by simp))⟩, _, k1.set 0 _, by simp, by simp [k3]⟩
theorem VoB.set1 {wr : World} {B : Nat} {v : Value} {need : Int} (h : VoB wr B v need) (n' : Int) : VoB (wr.setCell ⟨B + 1, 1, none⟩ (.int .i64 n')) B v n' := by
  obtain ⟨⟨f, k0⟩, g, k1, k2, k3⟩ := h
  exact ⟨⟨f, k0.of_block (Below.heap_setCell _ ⟨B + 1, _, none⟩ _ B (by simp))⟩, _, k1.set 1 _, by simp [k2], by simp⟩
/-- The row of numbers is none of the boxes. -/
theorem VoB.ne {wr : World} {B B' : Nat} {v : Value} {need : Int} {u : Value} {n : Nat} {xs : List Value} (h : VoB wr B v need) (ho : wr.ownsRow B' 3 1 u n xs) : u.ownBlock ≠ some B ∧ u.ownBlock ≠ some (B + 1) := by
  obtain ⟨⟨f, cs0, k0, -⟩, g, ⟨cs1, k1, -⟩, -⟩ := h
  obtain ⟨-, ⟨rfl, -⟩ | ⟨g, cap, cur, rfl, -, hh, -⟩⟩ := ho
  · simp [Value.ownBlock]
  · constructor
    all_goals
      intro e
      simp only [Value.ownBlock, Option.some.injEq] at e
      subst e
    · rw [hh] at k0; simp at k0
    · rw [hh] at k1; simp at k1
theorem VoB.b0 {wr : World} {B : Nat} {v : Value} {need : Int} (h : VoB wr B v need) : ∃ x y, wr.cell? ⟨B, 0, none⟩ = some x ∧ wr.cell? ⟨B, 1, none⟩ = some y := by
  obtain ⟨⟨f, k0⟩, -⟩ := h
  exact ⟨_, _, k0.cell (by omega), k0.cell (by omega)⟩
/-- The answer's box is written. -/
theorem VoB.put {wr : World} {B : Nat} {v : Value} {need : Int} (h : VoB wr B v need) (x y : Value) : VoB ((wr.setCell ⟨B, 0, none⟩ x).setCell ⟨B, 1, none⟩ y) B v need := by
  obtain ⟨⟨f, k0⟩, g, k1, k2, k3⟩ := h
  exact ⟨⟨_, (k0.set 0 _).set 1 _⟩, g, (k1.of_block (Below.heap_setCell _ ⟨B, _, none⟩ _ (B + 1) (by simp))).of_block (Below.heap_setCell _ ⟨B, _, none⟩ _ (B + 1) (by simp)), k2, k3⟩

end Go.Proofs.YtdibddkhjefmlaaDoor

namespace Go.Proofs.YtdibddkhjefmlaaDoor
open Go.RowKit

theorem celF {w w' : World} {b o : Nat} {v : Value} (h : Below w.heap.size w w') (hc : w.cell? ⟨b, o, none⟩ = some v) : w'.cell? ⟨b, o, none⟩ = some v := (h.cell (p := ⟨b, o, none⟩) (lt_of_cell hc)).trans hc
theorem en_up {w wr : World} {p : Nat} {a : Option Addr} {bs : List UInt8} {c z z2 : Nat} {v : Value} {zs : List Int} (h : EnSt w wr p a bs c v zs z) (hz : z ≤ z2) : EnSt w wr p a bs c v zs z2 := by
  obtain ⟨z', h1, h2⟩ := h.cur
  exact ⟨h.own, ⟨z', by omega, h2⟩, h.far⟩
set_option maxRecDepth 100000 in
set_option maxHeartbeats 8000000 in
theorem votes_any (p : Nat) (a : Option Addr) (bs : List UInt8) (c z : Nat) (w : World) (h : Cur w p a bs c z) (hz : z ≤ 800000000) :
    Calls Tryd.prog 52 #[.pointer (some ⟨p, 0, none⟩)] w fun e w' => ∃ av cv zs need, e = .returned (.agg #[.slice av (zs : List Int).length cv, .int .i64 need]) ∧ zs.length ≤ 6 ∧ EnSt w w' p a bs c (.slice av zs.length cv) zs (z + 60) := by
  have hp : p < w.heap.size := lt_of_cell h.c0
  obtain ⟨i0, hi, hz0, hz1, hz2⟩ := info_parts Tryd.infoInt
  have hal : ∀ (v : World) (o : Obj), Below v.heap.size v (v.alloc o) := fun v o => (Below.refl _ _).alloc (Nat.le_refl _) o
  go_enter Tryd.func52, Tryd.ntmps52
  have hr0 := rowIs_of_alloc6 w #[.slice none 0 0, .int .i64 0] 77
  have hr1 := rowIs_of_alloc6 (w.alloc (.cells #[.slice none 0 0, .int .i64 0] 77)) #[.slice none 0 0, .int .i64 0] 77
  simp only [World.size_alloc] at hr1
  have fr0 := hr1.frozen 0
  have fr1 := hr1.frozen 1
  have hc0 := hr1.cell (i := 0) (by simp)
  have hc1 := hr1.cell (i := 1) (by simp)
  go_wp2_with fail
  clear fr0 fr1 hc0 hc1
  obtain ⟨u2, hu2⟩ : ∃ u, (w.alloc (.cells #[.slice none 0 0, .int .i64 0] 77)).alloc (.cells #[.slice none 0 0, .int .i64 0] 77) = u := ⟨_, rfl⟩
  have hB2 : Below w.heap.size w u2 := by rw [← hu2]; exact (hal _ _).trans ((hal _ _).mono (by simp))
  have st0 : EnSt w w p a bs c (.slice none 0 0) [] z := ⟨World.ownsRow_nil _ _ _ _, ⟨z, Nat.le_refl _, h⟩, Far.refl _ _⟩
  have st2 : EnSt w u2 p a bs c (.slice none 0 0) [] z := en_below st0 hp hB2
  have vb2 : VoB u2 w.heap.size (.slice none 0 0) 0 := by
    rw [← hu2]
    exact ⟨⟨_, hr0.of_block ((hal _ _).block _ (by simp))⟩, _, hr1, rfl, rfl⟩
  rw [hu2]
  clear st0 h hB2 hu2 hr0 hr1
  obtain ⟨z2, hz2', C2⟩ := st2.cur
  refine (pick_any _ _ _ _ _ _ _ C2 (by omega)).mono ?_
  rintro r w1 ⟨x, rfl, hx, k1⟩
  have st1 := en_draw st2 hz2' hp k1
  have vb1 := vb2.far (by obtain ⟨_, _, _, f⟩ := k1; exact f) hp
  clear st2 vb2 k1 C2
  go_wp2
  go_loopw [4, 5] (fun sv nv wr => ∃ (zs : List Int) (s : Int) (n zz : Nat) (v : Value), sv = .int .i64 s ∧ nv = .int .i64 (n : Int) ∧ zs.length + n ≤ 6 ∧ 1 ≤ zs.length + n ∧ 0 ≤ s ∧ s ≤ 3 * (zs.length : Int) ∧ zz + 2 * n ≤ z + 20 ∧ EnSt w wr p a bs c v zs zz ∧ VoB wr w.heap.size v 0) (fun _ nv _ => (intOf nv).toNat)
  case atStart => exact ⟨[], 0, 1 + x, z + 2, _, rfl, by go_num, by simp; omega, by simp, by omega, by simp, by omega, st1, vb1⟩
  case round =>
    clear st1 vb1
    obtain ⟨zs, s, n, zz, v, rfl, rfl, hzn, hzn1, hs0, hs3, hzz, st, vb⟩ := hrel
    obtain ⟨av, cv, rfl⟩ := ownsZ_form st.own
    by_cases hpos : 0 < n
    · have hpI : (0 : Int) < (n : Int) := by omega
      have hlit := ints_lit wr [1, 1, 1, 2, 0, 3] 3
      have e3 : (zCells [1, 1, 1, 2, 0, 3]).toArray = #[Value.int .i64 1, Value.int .i64 1, Value.int .i64 1, Value.int .i64 2, Value.int .i64 0, Value.int .i64 3] := rfl
      rw [e3] at hlit
      obtain ⟨u4, hu4⟩ : ∃ u, wr.alloc (.cells #[Value.int .i64 1, Value.int .i64 1, Value.int .i64 1, Value.int .i64 2, Value.int .i64 0, Value.int .i64 3] 3) = u := ⟨_, rfl⟩
      have st4 : EnSt w u4 p a bs c (.slice av zs.length cv) zs zz := by rw [← hu4]; exact en_below st hp (hal _ _)
      have vb4 : VoB u4 w.heap.size (.slice av zs.length cv) 0 := by rw [← hu4]; exact vb.below (hal _ _)
      have hsr := st.far.bel.size
      have hpr : p < wr.heap.size := by have := vb.lt; omega
      rw [hu4] at hlit
      obtain ⟨z4, hz4', C4⟩ := st4.cur
      clear st vb
      go_wp2_with fail
      try rw [hu4]
      clear hu4
      refine (among_any p a bs c z4 wr.heap.size _ [1, 1, 1, 2, 0, 3] u4 C4 (by omega) hlit (by omega) (by simp) (by simp)).mono ?_
      rintro r w5 ⟨y, rfl, hy, k5⟩
      have hy3 : 0 ≤ y ∧ y ≤ 3 := by simp at hy; omega
      have st5 := en_draw st4 hz4' hp k5
      have vb5 := vb4.far (by obtain ⟨_, _, _, f⟩ := k5; exact f) hp
      clear st4 vb4 k5 C4 hlit hy
      have c5 := vb5.c0
      have f5 := (vb5.fr 0).1
      have hsz := vb5.lt
      have hws : w.heap.size ≤ w5.heap.size := by omega
      have sta : ∀ o, EnSt w (w5.alloc o) p a bs c (.slice av zs.length cv) zs (zz + 2) := fun o => en_below st5 hp (hal _ o)
      have vba : ∀ o, VoB (w5.alloc o) w.heap.size (.slice av zs.length cv) 0 := fun o => vb5.below (hal _ o)
      go_wp2_with (at_builtin; refine wpList_append_lies _ rfl _ _ 31 rfl w.heap.size 3 i0 _ 1 8 Tryd.underlying31 hi hz0 hz1 hz2 rfl (by decide) (.slice av zs.length cv) zs.length (zCells zs) rfl (sta _).own ⟨w5.heap.size, 0, none⟩ 1 1 [.int .i64 y] rfl rfl ?c1 ?c2 (by omega) ?c3 ?c4 ?c5 (w5.heap.size + 1) ?c6 ?_)
      try (case c1 => first | exact (fun j u h => h) | exact World.news_of_block (cs := #[.int .i64 y]) (t := 3) (fr := (0, 0)) (by first | exact (heap_alloc_new w5 _) | simpa using (heap_alloc_new w5 _)))
      case c2 => simp [Value.oneCell']
      case c3 => unfold maxLen; omega
      case c4 => omega
      case c5 => first | omega | (simp; omega)
      try (case c6 => simp)
      intro g8 cap8 w8 hown8 hgrow8 hat8 _
      have hne := (vba (.cells #[.int .i64 y] 3)).ne (sta (.cells #[.int .i64 y] 3)).own
      have hlt8 := (vba (.cells #[.int .i64 y] 3)).lt
      have vb8 : VoB w8 w.heap.size (.slice av zs.length cv) 0 := (vba _).of_block (hgrow8.block _ (by omega) (fun e => hne.1 e.symm)) (hgrow8.block _ (by omega) (fun e => hne.2 e.symm))
      have st8 := en_grown (sta _) hp hgrow8 hown8
      have c8 := vb8.c0
      have f8 := (vb8.fr 0).1
      have hne8 := vb8.ne st8.own
      have HV9 := (show Hid _ from vb8.set0 (.slice (some ⟨g8, 0, none⟩) (zs.length + 1) cap8))
      have HS9 : Hid (EnSt w (w8.setCell ⟨w.heap.size + 1, 0, none⟩ (.slice (some ⟨g8, 0, none⟩) (zs.length + 1) cap8)) p a bs c (.slice (some ⟨g8, 0, none⟩) (zs.length + 1) cap8) (zs ++ [y]) (zz + 2)) := en_keep st8 hp ((Below.refl _ _).setCell (p := ⟨w.heap.size + 1, 0, none⟩) (by simp) _) (fun g hg => Below.heap_setCell _ ⟨w.heap.size + 1, _, none⟩ _ g (fun e => hne8.2 (by rw [hg]; exact congrArg some e)))
      clear vb8 st8 hown8 hgrow8 hat8 sta vba st5 vb5 hne8 hne
      go_wp2_with fail
      go_roundw
      case rel => exact ⟨zs ++ [y], s + y, n - 1, zz + 2, _, by go_num, by congr 1; omega, by simp; omega, by simp; omega, by omega, by simp; omega, by omega, HS9.out, HV9.out⟩
      case measure => simp [intOf]; omega
    · obtain rfl : n = 0 := by omega
      have hlen1 : 1 ≤ zs.length := by omega
      have hlen6 : zs.length ≤ 6 := by omega
      have c9 := vb.c1
      have f9 := (vb.fr 1).1
      have hsd : s.tdiv 2 = s / 2 := Int.tdiv_eq_ediv_of_nonneg hs0
      have hq : ∃ q : Int, s.tdiv 2 + 1 = q ∧ 1 ≤ q ∧ q ≤ 20 := ⟨_, rfl, by omega, by omega⟩
      clear hsd
      obtain ⟨q, hq, hq1, hq2⟩ := hq
      have HV := (show Hid _ from vb.set1 q)
      have HS : Hid (EnSt w (wr.setCell ⟨w.heap.size + 1, 1, none⟩ (.int .i64 q)) p a bs c (.slice av zs.length cv) zs zz) := en_keep st hp ((Below.refl _ _).setCell (p := ⟨w.heap.size + 1, 1, none⟩) (by simp) _) (fun g hg => Below.heap_setCell _ ⟨w.heap.size + 1, _, none⟩ _ g (fun e => (vb.ne st.own).2 (by rw [hg]; exact congrArg some e)))
      clear st vb
      obtain ⟨z9, hz9, C9⟩ := HS.out.cur
      go_wp2_with fail
      refine (one_any _ _ _ _ _ _ _ C9 (by omega)).mono ?_
      rintro r w6 ⟨b1, rfl, k6⟩
      have st6 := en_draw HS.out hz9 hp k6
      have vb6 := HV.out.far (by obtain ⟨_, _, _, f⟩ := k6; exact f) hp
      clear HS HV k6 C9 c9 f9
      cases b1
      · have st7 := st6
        have vb7 := vb6
        clear st6 vb6
        obtain ⟨z7, hz7, C7⟩ := st7.cur
        go_wp2_with fail
        refine (one_any _ _ _ _ _ _ _ C7 (by omega)).mono ?_
        rintro r w8 ⟨b2, rfl, k8⟩
        have st8 := en_draw st7 hz7 hp k8
        have vb8 := vb7.far (by obtain ⟨_, _, _, f⟩ := k8; exact f) hp
        clear st7 vb7 k8 C7
        have d0 := vb8.c0
        have d1 := vb8.c1
        obtain ⟨x0, y0, e0, e1⟩ := vb8.b0
        have g0 := (vb8.fr 0).2
        have g1 := (vb8.fr 1).2
        cases b2
        · go_wp2
          have st9 := en_keep st8 hp ((Below.refl _ _).setCell (p := ⟨w.heap.size, 0, none⟩) (by simp) (.slice av zs.length cv)) (fun g hg => Below.heap_setCell _ ⟨w.heap.size, _, none⟩ _ g (fun e => (vb8.ne st8.own).1 (by rw [hg]; exact congrArg some e)))
          have st10 := en_keep st9 hp ((Below.refl _ _).setCell (p := ⟨w.heap.size, 1, none⟩) (by simp) (.int .i64 q)) (fun g hg => Below.heap_setCell _ ⟨w.heap.size, _, none⟩ _ g (fun e => (vb8.ne st8.own).1 (by rw [hg]; exact congrArg some e)))
          exact bodyPost_ret (v := .agg #[.slice av zs.length cv, .int .i64 q]) (by simp [results, Tryd.results52, go_sem, e0, e1]) rfl ⟨av, cv, zs, q, rfl, hlen6, en_up st10 (by omega)⟩
        · obtain ⟨g, rfl⟩ : ∃ g, av = some ⟨g, 0, none⟩ := by
            obtain ⟨-, ⟨h1, h2⟩ | ⟨g, cap, cur, h1, -⟩⟩ := st8.own
            · omega
            · simp at h1; exact ⟨g, h1.1⟩
          have hl0 : (0 : Int) < (zs.length : Int) := by omega
          have hl0n : 0 < zs.length := by omega
          have hsr8 := st8.far.bel.size
          have hpl : p < w8.heap.size := by have := vb8.lt; omega
          clear d1 e0 e1 g0 g1 x0 y0
          go_wp2_with fail
          have BD : Below w8.heap.size w8 w8.drew := (Below.refl _ _).drew
          have kk : w8.drew.cell? ⟨w.heap.size + 1, 0, none⟩ = some (.slice (some ⟨g, 0, none⟩) zs.length cv) := celF BD d0
          have st9 := en_below st8 hp BD
          have vb9 := vb8.below BD
          refine wp_region_noPanic ?_
          refine wp_region_held_drew (S := fun w' => w'.cell? ⟨w.heap.size + 1, 0, none⟩ = some (.slice (some ⟨g, 0, none⟩) zs.length cv)) (by kernel_rfl) kk (fun hH => ?_)
          obtain ⟨x9, hx9⟩ : ∃ x, w8.drew = x := ⟨_, rfl⟩
          rw [hx9] at st9 vb9 kk
          have hsx : w8.heap.size ≤ x9.heap.size := by rw [← hx9]; exact BD.size
          try rw [hx9] at hH
          try rw [hx9]
          clear hx9 BD st8 vb8 d0
          refine wpAnyH_take (i := 0) (oi := ⟨_, _, _, _, _, _⟩) (v := ?va0) rfl (by kernel_rfl) (by kernel_rfl) (by kernel_rfl) (fun _ _ _ h => h) (Or.inl ⟨by rfl, ?ya0⟩) (by assumption) ?ra0
          case ya0 => intro w hSw; (try dsimp only at hSw); go_simp; try with_reducible rfl
          try simp only [Act.put, List.setIfInBounds_toArray, List.set_cons_zero, List.set_cons_succ]
          refine wpAnyH_take (i := 1) (oi := ⟨_, _, _, _, _, _⟩) (v := ?va1) rfl (by kernel_rfl) (by kernel_rfl) (by kernel_rfl) (fun _ _ _ h => h) (Or.inl ⟨by rfl, ?ya1⟩) (by assumption) ?ra1
          case ya1 => intro w hSw; (try dsimp only at hSw); go_simp; try with_reducible rfl
          try simp only [Act.put, List.setIfInBounds_toArray, List.set_cons_zero, List.set_cons_succ]
          refine wpAnyH_take (i := 2) (oi := ⟨_, _, _, _, _, _⟩) (v := ?va2) rfl (by kernel_rfl) (by kernel_rfl) (by kernel_rfl) (fun _ _ _ h => h) (Or.inl ⟨by rfl, ?ya2⟩) (by assumption) ?ra2
          case ya2 => intro w hSw; (try dsimp only at hSw); go_simp; try with_reducible rfl
          try simp only [Act.put, List.setIfInBounds_toArray, List.set_cons_zero, List.set_cons_succ]
          refine wpAnyH_ready (rs := [3]) (by kernel_rfl) (by simp) ?_
          refine AllReadyH.cons (o := ⟨_, _, _, _, _, _⟩) rfl (fun KK hK => ?_) AllReadyH.nil
          go_simp
          have HL := ints_lit x9 [-1, 9, 10] 3
          have e3 : (zCells [-1, 9, 10]).toArray = #[Value.int .i64 (-1), Value.int .i64 9, Value.int .i64 10] := rfl
          rw [e3] at HL
          obtain ⟨u9, hu9⟩ : ∃ u, x9.alloc (.cells #[Value.int .i64 (-1), Value.int .i64 9, Value.int .i64 10] 3) = u := ⟨_, rfl⟩
          have BA : Below x9.heap.size x9 u9 := by rw [← hu9]; exact hal _ _
          rw [hu9] at HL
          try rw [hu9]
          have kk1 : u9.cell? ⟨w.heap.size + 1, 0, none⟩ = some (.slice (some ⟨g, 0, none⟩) zs.length cv) := celF BA kk
          have stA := en_below st9 hp BA
          have vbA := vb9.below BA
          clear st9 vb9 BA kk e3 hu9
          refine hK.out _ _ kk1 (fun hH3 => ?_)
          clear hK KK hH
          try simp only [Act.put, List.setIfInBounds_toArray, List.set_cons_zero, List.set_cons_succ]
          refine wpAnyH_ready (rs := [4]) (by kernel_rfl) (by simp) ?_
          refine AllReadyH.cons (o := ⟨_, _, _, _, _, _⟩) rfl (fun KK hK => ?_) AllReadyH.nil
          go_simp
          obtain ⟨zA, hzA, CA⟩ := stA.cur
          refine (among_any p a bs c zA x9.heap.size _ [-1, 9, 10] u9 CA (by omega) HL (by omega) (by simp) (by simp)).mono ?_
          rintro r wC ⟨yC, rfl, hyC, kC⟩
          have stC := en_draw stA hzA hp kC
          have vbC := vbA.far (by obtain ⟨_, _, _, f⟩ := kC; exact f) hp
          clear stA vbA kC CA HL hyC
          have kk2 : wC.cell? ⟨w.heap.size + 1, 0, none⟩ = some (.slice (some ⟨g, 0, none⟩) zs.length cv) := vbC.c0
          obtain ⟨hcl, hfr⟩ : wC.cell? ⟨g, 0, none⟩ = some (.int .i64 (zs.getD 0 0)) ∧ wC.frozen? ⟨g, 0, none⟩ = false := by
            obtain ⟨g', cap, f, hv, hg', hn', hR, hxx⟩ := row_of_ownsZ stC.own (by omega)
            simp only [Value.slice.injEq, true_and, Option.some.injEq, Addr.mk.injEq, and_true] at hv
            obtain ⟨rfl, -⟩ := hv
            refine ⟨?_, hR.frozen 0⟩
            have h0 := hxx 0 (by omega)
            rw [hR.cell (by omega), ← h0]
            have : zs[0]? = some (zs.getD 0 0) := by rw [List.getD_eq_getElem?_getD, List.getElem?_eq_getElem (by omega)]; rfl
            exact zCells_get this
          have hngC := vbC.ne stC.own
          go_wp2_with fail
          refine hK.out _ _ kk2 (fun hH4 => ?_)
          clear hK KK hH3 kk1
          try simp only [Act.put, List.setIfInBounds_toArray, List.set_cons_zero, List.set_cons_succ]
          refine wpAnyH_take (i := 5) (oi := ⟨_, _, _, _, _, _⟩) (v := ?va5) rfl (by kernel_rfl) (by kernel_rfl) (by kernel_rfl) (fun _ _ _ h => h) (Or.inl ⟨by rfl, ?ya5⟩) (by assumption) ?ra5
          case ya5 => intro w hSw; (try dsimp only at hSw); go_simp; try with_reducible rfl
          try simp only [Act.put, List.setIfInBounds_toArray, List.set_cons_zero, List.set_cons_succ]
          refine wpAnyH_ready (rs := [6]) (by kernel_rfl) (by simp) ?_
          refine AllReadyH.cons (o := ⟨_, _, _, _, _, _⟩) rfl (fun KK hK => ?_) AllReadyH.nil
          go_simp
          have vbE := vbC.of_block (w' := wC.setCell ⟨g, 0, none⟩ (.int .i64 yC)) (Below.heap_setCell _ ⟨g, _, none⟩ _ _ (fun e => hngC.1 (congrArg some e.symm))) (Below.heap_setCell _ ⟨g, _, none⟩ _ _ (fun e => hngC.2 (congrArg some e.symm)))
          have stE := en_store (x := 0) (y := yC) stC hp
          have kk3 : (wC.setCell ⟨g, 0, none⟩ (.int .i64 yC)).cell? ⟨w.heap.size + 1, 0, none⟩ = some (.slice (some ⟨g, 0, none⟩) zs.length cv) := vbE.c0
          refine hK.out _ _ kk3 (fun hH6 => ?_)
          clear hK KK hH4 kk2
          try simp only [Act.put, List.setIfInBounds_toArray, List.set_cons_zero, List.set_cons_succ]
          refine wpAnyH_done (by kernel_rfl) (NoPanic.normal ?_) _
          obtain ⟨wE, hwE⟩ : ∃ u, wC.setCell ⟨g, 0, none⟩ (.int .i64 yC) = u := ⟨_, rfl⟩
          rw [hwE] at vbE stE ⊢
          clear hcl hfr kk3 stC vbC hwE
          have hngE : ∀ k, (Value.slice (some ⟨g, 0, none⟩) zs.length cv).ownBlock = some k → k ≠ w.heap.size := fun k hk e => hngC.1 (hk.trans (congrArg some e))
          have d0 := vbE.c0
          have d1 := vbE.c1
          obtain ⟨x0, y0, e0, e1⟩ := vbE.b0
          have g0 := (vbE.fr 0).2
          have g1 := (vbE.fr 1).2
          have st11 := en_keep stE hp ((Below.refl _ _).setCell (p := ⟨w.heap.size, 0, none⟩) (by simp) (.slice (some ⟨g, 0, none⟩) zs.length cv)) (fun k hk => Below.heap_setCell _ ⟨w.heap.size, _, none⟩ _ k (hngE k hk))
          have HS12 := (show Hid _ from en_keep st11 hp ((Below.refl _ _).setCell (p := ⟨w.heap.size, 1, none⟩) (by simp) (.int .i64 q)) (fun k hk => Below.heap_setCell _ ⟨w.heap.size, _, none⟩ _ k (hngE k hk)))
          have HLn : Hid ((zs.set 0 yC).length = zs.length) := by show _ = _; simp
          clear st11 stE vbE hngE hngC
          go_wp2
          exact bodyPost_ret (v := .agg #[.slice (some ⟨g, 0, none⟩) zs.length cv, .int .i64 q]) (by simp [results, Tryd.results52, go_sem, e0, e1]) rfl ⟨some ⟨g, 0, none⟩, cv, zs.set 0 yC, q, by rw [HLn.out], by rw [HLn.out]; exact hlen6, by rw [HLn.out]; exact en_up HS12.out (by omega)⟩
      · obtain ⟨z6, hz6, C6⟩ := st6.cur
        go_wp2_with fail
        refine (pick_any _ _ _ _ _ _ _ C6 (by omega)).mono ?_
        rintro r w66 ⟨y, rfl, hy, k6⟩
        have st66 := en_draw st6 hz6 hp k6
        have vb66 := vb6.far (by obtain ⟨_, _, _, f⟩ := k6; exact f) hp
        clear st6 vb6 k6 C6
        have c9 := vb66.c1
        have f9 := (vb66.fr 1).1
        obtain ⟨q2, hq2e⟩ : ∃ q2 : Int, 1 + (y : Int) = q2 := ⟨_, rfl⟩
        have vb7 := vb66.set1 q2
        have st7 : EnSt w (w66.setCell ⟨w.heap.size + 1, 1, none⟩ (.int .i64 q2)) p a bs c (.slice av zs.length cv) zs _ := en_keep st66 hp ((Below.refl _ _).setCell (p := ⟨w.heap.size + 1, 1, none⟩) (by simp) _) (fun g hg => Below.heap_setCell _ ⟨w.heap.size + 1, _, none⟩ _ g (fun e => (vb66.ne st66.own).2 (by rw [hg]; exact congrArg some e)))
        clear st66 vb66
        obtain ⟨z7, hz7, C7⟩ := st7.cur
        go_wp2_with fail
        refine (one_any _ _ _ _ _ _ _ C7 (by omega)).mono ?_
        rintro r w8 ⟨b2, rfl, k8⟩
        have st8 := en_draw st7 hz7 hp k8
        have vb8 := vb7.far (by obtain ⟨_, _, _, f⟩ := k8; exact f) hp
        clear st7 vb7 k8 C7
        have d0 := vb8.c0
        have d1 := vb8.c1
        obtain ⟨x0, y0, e0, e1⟩ := vb8.b0
        have g0 := (vb8.fr 0).2
        have g1 := (vb8.fr 1).2
        cases b2
        · go_wp2
          have st9 := en_keep st8 hp ((Below.refl _ _).setCell (p := ⟨w.heap.size, 0, none⟩) (by simp) (.slice av zs.length cv)) (fun g hg => Below.heap_setCell _ ⟨w.heap.size, _, none⟩ _ g (fun e => (vb8.ne st8.own).1 (by rw [hg]; exact congrArg some e)))
          have st10 := en_keep st9 hp ((Below.refl _ _).setCell (p := ⟨w.heap.size, 1, none⟩) (by simp) (.int .i64 q2)) (fun g hg => Below.heap_setCell _ ⟨w.heap.size, _, none⟩ _ g (fun e => (vb8.ne st8.own).1 (by rw [hg]; exact congrArg some e)))
          exact bodyPost_ret (v := .agg #[.slice av zs.length cv, .int .i64 q2]) (by simp [results, Tryd.results52, go_sem, e0, e1]) rfl ⟨av, cv, zs, q2, rfl, hlen6, en_up st10 (by omega)⟩
        · obtain ⟨g, rfl⟩ : ∃ g, av = some ⟨g, 0, none⟩ := by
            obtain ⟨-, ⟨h1, h2⟩ | ⟨g, cap, cur, h1, -⟩⟩ := st8.own
            · omega
            · simp at h1; exact ⟨g, h1.1⟩
          have hl0 : (0 : Int) < (zs.length : Int) := by omega
          have hl0n : 0 < zs.length := by omega
          have hsr8 := st8.far.bel.size
          have hpl : p < w8.heap.size := by have := vb8.lt; omega
          clear d1 e0 e1 g0 g1 x0 y0
          go_wp2_with fail
          have BD : Below w8.heap.size w8 w8.drew := (Below.refl _ _).drew
          have kk : w8.drew.cell? ⟨w.heap.size + 1, 0, none⟩ = some (.slice (some ⟨g, 0, none⟩) zs.length cv) := celF BD d0
          have st9 := en_below st8 hp BD
          have vb9 := vb8.below BD
          refine wp_region_noPanic ?_
          refine wp_region_held_drew (S := fun w' => w'.cell? ⟨w.heap.size + 1, 0, none⟩ = some (.slice (some ⟨g, 0, none⟩) zs.length cv)) (by kernel_rfl) kk (fun hH => ?_)
          obtain ⟨x9, hx9⟩ : ∃ x, w8.drew = x := ⟨_, rfl⟩
          rw [hx9] at st9 vb9 kk
          have hsx : w8.heap.size ≤ x9.heap.size := by rw [← hx9]; exact BD.size
          try rw [hx9] at hH
          try rw [hx9]
          clear hx9 BD st8 vb8 d0
          refine wpAnyH_take (i := 0) (oi := ⟨_, _, _, _, _, _⟩) (v := ?vb0) rfl (by kernel_rfl) (by kernel_rfl) (by kernel_rfl) (fun _ _ _ h => h) (Or.inl ⟨by rfl, ?yb0⟩) (by assumption) ?rb0
          case yb0 => intro w hSw; (try dsimp only at hSw); go_simp; try with_reducible rfl
          try simp only [Act.put, List.setIfInBounds_toArray, List.set_cons_zero, List.set_cons_succ]
          refine wpAnyH_take (i := 1) (oi := ⟨_, _, _, _, _, _⟩) (v := ?vb1) rfl (by kernel_rfl) (by kernel_rfl) (by kernel_rfl) (fun _ _ _ h => h) (Or.inl ⟨by rfl, ?yb1⟩) (by assumption) ?rb1
          case yb1 => intro w hSw; (try dsimp only at hSw); go_simp; try with_reducible rfl
          try simp only [Act.put, List.setIfInBounds_toArray, List.set_cons_zero, List.set_cons_succ]
          refine wpAnyH_take (i := 2) (oi := ⟨_, _, _, _, _, _⟩) (v := ?vb2) rfl (by kernel_rfl) (by kernel_rfl) (by kernel_rfl) (fun _ _ _ h => h) (Or.inl ⟨by rfl, ?yb2⟩) (by assumption) ?rb2
          case yb2 => intro w hSw; (try dsimp only at hSw); go_simp; try with_reducible rfl
          try simp only [Act.put, List.setIfInBounds_toArray, List.set_cons_zero, List.set_cons_succ]
          refine wpAnyH_ready (rs := [3]) (by kernel_rfl) (by simp) ?_
          refine AllReadyH.cons (o := ⟨_, _, _, _, _, _⟩) rfl (fun KK hK => ?_) AllReadyH.nil
          go_simp
          have HL := ints_lit x9 [-1, 9, 10] 3
          have e3 : (zCells [-1, 9, 10]).toArray = #[Value.int .i64 (-1), Value.int .i64 9, Value.int .i64 10] := rfl
          rw [e3] at HL
          obtain ⟨u9, hu9⟩ : ∃ u, x9.alloc (.cells #[Value.int .i64 (-1), Value.int .i64 9, Value.int .i64 10] 3) = u := ⟨_, rfl⟩
          have BA : Below x9.heap.size x9 u9 := by rw [← hu9]; exact hal _ _
          rw [hu9] at HL
          try rw [hu9]
          have kk1 : u9.cell? ⟨w.heap.size + 1, 0, none⟩ = some (.slice (some ⟨g, 0, none⟩) zs.length cv) := celF BA kk
          have stA := en_below st9 hp BA
          have vbA := vb9.below BA
          clear st9 vb9 BA kk e3 hu9
          refine hK.out _ _ kk1 (fun hH3 => ?_)
          clear hK KK hH
          try simp only [Act.put, List.setIfInBounds_toArray, List.set_cons_zero, List.set_cons_succ]
          refine wpAnyH_ready (rs := [4]) (by kernel_rfl) (by simp) ?_
          refine AllReadyH.cons (o := ⟨_, _, _, _, _, _⟩) rfl (fun KK hK => ?_) AllReadyH.nil
          go_simp
          obtain ⟨zA, hzA, CA⟩ := stA.cur
          refine (among_any p a bs c zA x9.heap.size _ [-1, 9, 10] u9 CA (by omega) HL (by omega) (by simp) (by simp)).mono ?_
          rintro r wC ⟨yC, rfl, hyC, kC⟩
          have stC := en_draw stA hzA hp kC
          have vbC := vbA.far (by obtain ⟨_, _, _, f⟩ := kC; exact f) hp
          clear stA vbA kC CA HL hyC
          have kk2 : wC.cell? ⟨w.heap.size + 1, 0, none⟩ = some (.slice (some ⟨g, 0, none⟩) zs.length cv) := vbC.c0
          obtain ⟨hcl, hfr⟩ : wC.cell? ⟨g, 0, none⟩ = some (.int .i64 (zs.getD 0 0)) ∧ wC.frozen? ⟨g, 0, none⟩ = false := by
            obtain ⟨g', cap, f, hv, hg', hn', hR, hxx⟩ := row_of_ownsZ stC.own (by omega)
            simp only [Value.slice.injEq, true_and, Option.some.injEq, Addr.mk.injEq, and_true] at hv
            obtain ⟨rfl, -⟩ := hv
            refine ⟨?_, hR.frozen 0⟩
            have h0 := hxx 0 (by omega)
            rw [hR.cell (by omega), ← h0]
            have : zs[0]? = some (zs.getD 0 0) := by rw [List.getD_eq_getElem?_getD, List.getElem?_eq_getElem (by omega)]; rfl
            exact zCells_get this
          have hngC := vbC.ne stC.own
          go_wp2_with fail
          refine hK.out _ _ kk2 (fun hH4 => ?_)
          clear hK KK hH3 kk1
          try simp only [Act.put, List.setIfInBounds_toArray, List.set_cons_zero, List.set_cons_succ]
          refine wpAnyH_take (i := 5) (oi := ⟨_, _, _, _, _, _⟩) (v := ?vb5) rfl (by kernel_rfl) (by kernel_rfl) (by kernel_rfl) (fun _ _ _ h => h) (Or.inl ⟨by rfl, ?yb5⟩) (by assumption) ?rb5
          case yb5 => intro w hSw; (try dsimp only at hSw); go_simp; try with_reducible rfl
          try simp only [Act.put, List.setIfInBounds_toArray, List.set_cons_zero, List.set_cons_succ]
          refine wpAnyH_ready (rs := [6]) (by kernel_rfl) (by simp) ?_
          refine AllReadyH.cons (o := ⟨_, _, _, _, _, _⟩) rfl (fun KK hK => ?_) AllReadyH.nil
          go_simp
          have vbE := vbC.of_block (w' := wC.setCell ⟨g, 0, none⟩ (.int .i64 yC)) (Below.heap_setCell _ ⟨g, _, none⟩ _ _ (fun e => hngC.1 (congrArg some e.symm))) (Below.heap_setCell _ ⟨g, _, none⟩ _ _ (fun e => hngC.2 (congrArg some e.symm)))
          have stE := en_store (x := 0) (y := yC) stC hp
          have kk3 : (wC.setCell ⟨g, 0, none⟩ (.int .i64 yC)).cell? ⟨w.heap.size + 1, 0, none⟩ = some (.slice (some ⟨g, 0, none⟩) zs.length cv) := vbE.c0
          refine hK.out _ _ kk3 (fun hH6 => ?_)
          clear hK KK hH4 kk2
          try simp only [Act.put, List.setIfInBounds_toArray, List.set_cons_zero, List.set_cons_succ]
          refine wpAnyH_done (by kernel_rfl) (NoPanic.normal ?_) _
          obtain ⟨wE, hwE⟩ : ∃ u, wC.setCell ⟨g, 0, none⟩ (.int .i64 yC) = u := ⟨_, rfl⟩
          rw [hwE] at vbE stE ⊢
          clear hcl hfr kk3 stC vbC hwE
          have hngE : ∀ k, (Value.slice (some ⟨g, 0, none⟩) zs.length cv).ownBlock = some k → k ≠ w.heap.size := fun k hk e => hngC.1 (hk.trans (congrArg some e))
          have d0 := vbE.c0
          have d1 := vbE.c1
          obtain ⟨x0, y0, e0, e1⟩ := vbE.b0
          have g0 := (vbE.fr 0).2
          have g1 := (vbE.fr 1).2
          have st11 := en_keep stE hp ((Below.refl _ _).setCell (p := ⟨w.heap.size, 0, none⟩) (by simp) (.slice (some ⟨g, 0, none⟩) zs.length cv)) (fun k hk => Below.heap_setCell _ ⟨w.heap.size, _, none⟩ _ k (hngE k hk))
          have HS12 := (show Hid _ from en_keep st11 hp ((Below.refl _ _).setCell (p := ⟨w.heap.size, 1, none⟩) (by simp) (.int .i64 q2)) (fun k hk => Below.heap_setCell _ ⟨w.heap.size, _, none⟩ _ k (hngE k hk)))
          have HLn : Hid ((zs.set 0 yC).length = zs.length) := by show _ = _; simp
          clear st11 stE vbE hngE hngC
          go_wp2
          exact bodyPost_ret (v := .agg #[.slice (some ⟨g, 0, none⟩) zs.length cv, .int .i64 q2]) (by simp [results, Tryd.results52, go_sem, e0, e1]) rfl ⟨some ⟨g, 0, none⟩, cv, zs.set 0 yC, q2, by rw [HLn.out], by rw [HLn.out]; exact hlen6, by rw [HLn.out]; exact en_up HS12.out (by omega)⟩

end Go.Proofs.YtdibddkhjefmlaaDoor
