/-
  Numbers that are put in another order while the cursor turns: two rows apart. Made by mkordo.py.
  Drawn orders: the contract of spec.(*l1Cur).orderOf. Made by mkordo.py.
-/
import Derived.Test.YtmbfdonefpegeaaDoorOrdC
import Derived.Test.YtmbfdonefpegeaaDoorCur2
import Derived.Test.YtmbfdonefpegeaaDoorAppZ
import Derived.Deep.LoopGhost
import Derived.Deep.RegionHeld3
namespace Go.Proofs.YtmbfdonefpegeaaDoor
open Go.RowKit

/-- While numbers are put in another order: what is left and what is out, apart, and the cursor. -/
structure Z2 (w wr : World) (p : Nat) (a : Option Addr) (bs : List UInt8) (c : Nat) (v : Value) (ls : List Int) (wv : Value) (ws : List Int) (z : Nat) : Prop where
  lo : wr.ownsRow w.heap.size 3 1 v ls.length (zCells ls)
  wo : wr.ownsRow w.heap.size 3 1 wv ws.length (zCells ws)
  ap : ∀ b, v.ownBlock = some b → wv.ownBlock ≠ some b
  cur : Cur wr p a bs c z
  far : Far p w wr

theorem owns_blkZ {w w' : World} {B : Nat} {e : TypeId} {size : Nat} {v : Value} {n : Nat} {xs : List Value} (h : w.ownsRow B e size v n xs) (hs : ∀ q, v.ownBlock = some q → w'.heap[q]? = w.heap[q]?) : w'.ownsRow B e size v n xs := by
  obtain ⟨h1, h2 | ⟨g, cap, cur, hv, hg, hh, r⟩⟩ := h
  · exact ⟨h1, .inl h2⟩
  · exact ⟨h1, .inr ⟨g, cap, cur, hv, hg, (hs g (by rw [hv]; rfl)).trans hh, r⟩⟩

theorem owns_farZ {w wr u : World} {p : Nat} {e : TypeId} {size n : Nat} {v : Value} {xs : List Value} (h : wr.ownsRow w.heap.size e size v n xs) (hf : Far p wr u) (hp : p < w.heap.size) : u.ownsRow w.heap.size e size v n xs :=
  owns_blkZ h fun q hq => hf.blk q (h.lt q hq).2 (by have := (h.lt q hq).1; omega)

theorem Z2.step {w wr u : World} {p : Nat} {a : Option Addr} {bs : List UInt8} {c z z1 : Nat} {v wv : Value} {ls ws : List Int} (h : Z2 w wr p a bs c v ls wv ws z) (hp : p < w.heap.size) (hf : Far p wr u) (hc : Cur u p a bs c z1) : Z2 w u p a bs c v ls wv ws z1 :=
  ⟨owns_farZ h.lo hf hp, owns_farZ h.wo hf hp, h.ap, hc, h.far.trans hf⟩

theorem cur_keepZ {u w6 : World} {p B : Nat} {a : Option Addr} {bs : List UInt8} {c z : Nat} (h2 : Cur u p a bs c z) (hp : p < B) (hB : Below B u w6) : Cur w6 p a bs c z := by
  have hb := hB.block p hp
  obtain ⟨s, hs2⟩ := h2.c2
  exact ⟨(World.cell?_of_block (a := ⟨p, 0, none⟩) hb).trans h2.c0, (World.cell?_of_block (a := ⟨p, 1, none⟩) hb).trans h2.c1, ⟨s, (World.cell?_of_block (a := ⟨p, 2, none⟩) hb).trans hs2⟩, fun i => (World.frozen?_of_block (a := ⟨p, i, none⟩) hb).trans (h2.f i), h2.by_.of_block (fun b hi => hB.block b (by have := h2.lo b hi; omega)), h2.lo, h2.sm⟩

theorem Z2.pushL {w u w5 : World} {p : Nat} {a : Option Addr} {bs : List UInt8} {c z : Nat} {v v' wv : Value} {ls ws : List Int} {e : Int} (h : Z2 w u p a bs c v ls wv ws z) (hp : p < w.heap.size)
    (hown : w5.ownsRow w.heap.size 3 1 v' (ls.length + 1) (zCells ls ++ zCells [e])) (hgrow : u.grownBy w5 v.ownBlock) (hnew : ∀ b, v'.ownBlock = some b → v.ownBlock = some b ∨ b = u.heap.size) :
    Z2 w w5 p a bs c v' (ls ++ [e]) wv ws z := by
  have hz := h.far.bel.size
  have hB : Below w.heap.size u w5 := (Below.refl _ _).grown hgrow hz (fun k hk => (h.lo.lt k hk).1)
  refine ⟨?_, owns_blkZ h.wo fun q hq => hgrow.block q (h.wo.lt q hq).2 (fun e => h.ap q e.symm hq), fun b hb hw => ?_, cur_keepZ h.cur hp hB, ⟨h.far.bel.trans (hB.mono (by omega)), fun b hb hne => (hB.block b hb).trans (h.far.blk b hb hne)⟩⟩
  · rw [List.length_append, zCells_app]
    simp only [List.length_singleton]
    exact hown
  · rcases hnew b hb with hb | hb
    · exact h.ap b hb hw
    · have := (h.wo.lt b hw).2; omega

theorem Z2.swap {w u : World} {p : Nat} {a : Option Addr} {bs : List UInt8} {c z : Nat} {v wv : Value} {ls ws : List Int} (h : Z2 w u p a bs c v ls wv ws z) : Z2 w u p a bs c wv ws v ls z :=
  ⟨h.wo, h.lo, fun b h1 h2 => h.ap b h2 h1, h.cur, h.far⟩

theorem Z2.pushW {w u w5 : World} {p : Nat} {a : Option Addr} {bs : List UInt8} {c z : Nat} {v v' wv : Value} {ls ws : List Int} {e : Int} (h : Z2 w u p a bs c v ls wv ws z) (hp : p < w.heap.size)
    (hown : w5.ownsRow w.heap.size 3 1 v' (ws.length + 1) (zCells ws ++ zCells [e])) (hgrow : u.grownBy w5 wv.ownBlock) (hnew : ∀ b, v'.ownBlock = some b → wv.ownBlock = some b ∨ b = u.heap.size) :
    Z2 w w5 p a bs c v ls v' (ws ++ [e]) z := (h.swap.pushL hp hown hgrow hnew).swap

theorem Z2.freshW {w u w5 : World} {p : Nat} {a : Option Addr} {bs : List UInt8} {c z : Nat} {v v' wv : Value} {ls ws ws' : List Int} (h : Z2 w u p a bs c v ls wv ws z) (hp : p < w.heap.size)
    (hB : Below u.heap.size u w5) (hown : w5.ownsRow u.heap.size 3 1 v' ws'.length (zCells ws')) : Z2 w w5 p a bs c v ls v' ws' z := by
  have hz := h.far.bel.size
  have h2 := h.step hp (Far.of_below hB (by omega)) (cur_keepZ h.cur (by omega) hB)
  refine ⟨h2.lo, ?_, fun b h1 h3 => ?_, h2.cur, h2.far⟩
  · obtain ⟨o1, o2⟩ := hown
    exact ⟨o1, o2.imp id fun ⟨g', cap', cur, hv, hg, r⟩ => ⟨g', cap', cur, hv, by omega, r⟩⟩
  · have := (h.lo.lt b h1).2
    have := (hown.lt b h3).1
    omega

theorem ints_take {w : World} {a : Option Addr} {zs : List Int} (h : Ints w a zs) (j : Nat) : Ints w a (zs.take j) := fun i z hi => by
  have hlt := (List.getElem?_eq_some_iff.1 hi).1
  rw [List.length_take] at hlt
  rw [List.getElem?_take_of_lt (by omega)] at hi
  exact h i z hi
theorem ints_drop {w : World} {b o : Nat} {zs : List Int} (h : Ints w (some ⟨b, o, none⟩) zs) (j : Nat) : Ints w (some ⟨b, o + j, none⟩) (zs.drop j) := fun i z hi => by
  rw [List.getElem?_drop] at hi
  obtain ⟨b', o', e, hc⟩ := h _ z hi
  simp only [Option.some.injEq, Addr.mk.injEq, and_true] at e
  obtain ⟨rfl, rfl⟩ := e
  exact ⟨b, o + j, rfl, by rw [Nat.add_assoc]; exact hc⟩
def pdA (b o c j : Nat) : Option Addr := if c = j + 1 then some ⟨b, o, none⟩ else some ⟨b, o + (j + 1), none⟩
theorem pd_eq (b o c j : Nat) : (if c = j + 1 then some (⟨b, o, none⟩ : Addr) else some ⟨b, o + (j + 1), none⟩) = pdA b o c j := rfl
theorem ints_pd {w : World} {b o c j : Nat} {zs : List Int} (h : Ints w (some ⟨b, o, none⟩) zs) (hc : zs.length ≤ c) (hj : j < zs.length) : Ints w (pdA b o c j) (zs.drop (j + 1)) := by
  unfold pdA
  split
  · rw [List.drop_of_length_le (by omega)]; exact Ints.nil _ _
  · exact ints_drop h (j + 1)
theorem own_le {N B q : Nat} (lx : B ≤ N) (hq : (Value.slice (some ⟨N, 0, none⟩) 0 0).ownBlock = some q) : B ≤ q := by
  simp [Value.ownBlock] at hq; omega
theorem erase_own {w : World} {B j : Nat} {v : Value} {x : List Int} (hel : (x.eraseIdx j).length = j + (x.length - (j + 1))) (h : w.ownsRow B 3 1 v (j + (x.length - (j + 1))) (zCells (x.take j) ++ zCells (x.drop (j + 1)))) : w.ownsRow B 3 1 v (x.eraseIdx j).length (zCells (x.eraseIdx j)) := by
  rw [hel, List.eraseIdx_eq_take_drop_succ, zCells_app]; exact h
theorem srcC {w : World} {a : Option Addr} {c n : Nat} {zs : List Int} (hn : zs.length = n) (h : Ints w a zs) : SrcZ w (.slice a n c) n 1 (zCells zs) := by
  subst hn; exact srcZ_ints c h
theorem owns_emptyC {w : World} {b B : Nat} {t : TypeId} (h : w.heap[b]? = some (.cells #[] t (0, 0))) (hB : B ≤ b) : w.ownsRow B t 1 (.slice (some ⟨b, 0, none⟩) 0 0) 0 [] := owns_emptyZ h hB


theorem erase_numsZ (x : List Int) (j : Nat) (hjl : j < x.length) (hx7 : x.length ≤ 8) :
    Hid ((x.take j).length = j) ∧ Hid ((x.drop (j + 1)).length = x.length - (j + 1)) ∧ Hid (0 + j ≤ maxLen) ∧ Hid ((0 + j) * 8 ≤ 140737488355328) ∧ Hid (j + (x.length - (j + 1)) ≤ maxLen) ∧ Hid ((j + (x.length - (j + 1))) * 8 ≤ 140737488355328) ∧ Hid ((x.eraseIdx j).length = j + (x.length - (j + 1))) := by
  have hel : (x.eraseIdx j).length = j + (x.length - (j + 1)) := by rw [List.length_eraseIdx]; simp [hjl]; omega
  refine ⟨?_, ?_, ?_, ?_, ?_, ?_, hel⟩
  · show _ = _; rw [List.length_take]; omega
  · show _ = _; rw [List.length_drop]
  · show _ ≤ _; unfold maxLen; omega
  · show _ ≤ _; omega
  · show _ ≤ _; unfold maxLen; omega
  · show _ ≤ _; omega
theorem ints_nb {w : World} {B p : Nat} {a : Option Addr} {c : Nat} {l : List Int} (h : w.ownsRow B 3 1 (.slice a l.length c) l.length (zCells l)) (hp : p < B) : (Ints w a l ∧ ∀ b, InI a l.length b → b ≠ p) ∧ l.length ≤ c := by
  refine ⟨⟨(ints_of_owns h).1, fun b hb => ?_⟩, ?_⟩
  · obtain ⟨-, o, s, e⟩ := hb
    have := (h.lt b (by rw [e]; rfl)).1
    omega
  · obtain ⟨a', c', e, h1, -⟩ := ownsZ_cap h
    cases e
    exact h1
/-- The first number put anew. -/
theorem ints_put {w : World} {B c : Nat} {a : Option Addr} {l : List Int} (y : Int) (h : w.ownsRow B 3 1 (.slice a l.length c) l.length (zCells l)) (hj : 0 < l.length) :
    ∃ g, a = some ⟨g, 0, none⟩ ∧ B ≤ g ∧ (∃ x, w.cell? ⟨g, 0, none⟩ = some x) ∧ (∀ o, w.frozen? ⟨g, o, none⟩ = false) ∧ Ints (w.setCell ⟨g, 0, none⟩ (.int .i64 y)) (some ⟨g, 0, none⟩) (l.set 0 y) := by
  have hE := (ints_of_owns h).1
  obtain ⟨g, cap, f, hv, hg, hn, hR, hx⟩ := row_of_ownsZ h (by omega)
  simp only [Value.slice.injEq] at hv
  obtain ⟨rfl, -, rfl⟩ := hv
  have R3 := hR.set 0 (.int .i64 y)
  refine ⟨g, rfl, hg, ⟨_, hR.cell (by omega)⟩, fun o => hR.frozen o, fun i x hi => ⟨g, 0, rfl, ?_⟩⟩
  have hilt : i < l.length := by have := (List.getElem?_eq_some_iff.1 hi).1; simpa using this
  by_cases e1 : i = 0
  · subst e1
    rw [List.getElem?_set_self hilt] at hi
    obtain rfl := Option.some.inj hi
    rw [Nat.zero_add, R3.cell (by omega)]; simp
  · rw [List.getElem?_set_ne (by omega)] at hi
    obtain ⟨k, o, ea, h0⟩ := hE i x hi
    simp only [Option.some.injEq, Addr.mk.injEq, and_true] at ea
    obtain ⟨rfl, rfl⟩ := ea
    rw [Nat.zero_add, hR.cell (by omega)] at h0
    rw [Nat.zero_add, R3.cell (by omega), ← h0, if_neg (by omega)]

end Go.Proofs.YtmbfdonefpegeaaDoor

namespace Go.Proofs.YtmbfdonefpegeaaDoor
open Go.RowKit

/-- An order that was drawn. -/
def OrdA (w : World) (p : Nat) (a : Option Addr) (bs : List UInt8) (c z : Nat) (e : Ending) (w' : World) : Prop :=
  ∃ (av : Option Addr) (cv : Nat) (l : List Int), e = .returned (.slice av l.length cv) ∧ (Ints w' av l ∧ ∀ b, InI av l.length b → b ≠ p) ∧ l.length ≤ cv ∧ l.length ≤ 8 ∧ (∃ z', z' ≤ z + 400 ∧ Cur w' p a bs c z') ∧ Far p w w'

set_option maxRecDepth 100000 in
set_option maxHeartbeats 8000000 in
theorem orderOf_any (p : Nat) (a : Option Addr) (bs : List UInt8) (c z n : Nat) (w : World) (h : Cur w p a bs c z) (hz : z ≤ 700000000) (hn : n ≤ 8) :
    Calls Tryd.prog 18 #[.pointer (some ⟨p, 0, none⟩), .int .i64 (n : Int)] w fun e w' => OrdA w p a bs c z e w' := by
  obtain ⟨i0, hi, hz0, hz1, hz2⟩ := infoZ Tryd.infoInt
  have hp : p < w.heap.size := lt_of_cell h.c0
  go_enter Tryd.func18, Tryd.ntmps18
  go_wp2_with fail
  go_loopw [5, 7] (fun v5 s7 wr => ∃ (k : Nat) (ls : List Int), s7 = .int .i64 (k : Int) ∧ ls.length = k ∧ k ≤ n ∧ Hid (Z2 w wr p a bs c v5 ls (.slice none 0 0) [] z)) (fun _ s7 _ => n - (intOf s7).toNat)
  case atStart => exact ⟨0, [], rfl, rfl, Nat.zero_le _, ⟨World.ownsRow_nil _ _ _ _, World.ownsRow_nil _ _ _ _, fun b hb => (by simp [Value.ownBlock] at hb), h, Far.refl _ _⟩⟩
  case round =>
    obtain ⟨k, ls, rfl, hlk, hkn, st⟩ := hrel
    by_cases hlt : k < n
    · have hkI : (k : Int) < (n : Int) := by omega
      obtain ⟨la, lc, rfl⟩ := ownsZ_form st.out.lo
      have hal := fun (o : Obj) => st.out.step hp (Far.of_below (alHi wr o) (by have := st.out.far.bel.size; omega)) (st.out.cur.below (alHi wr o))
      have hzs := st.out.far.bel.size
      have HLK : Hid (ls.length = k) := hlk
      have hl8 : ls.length ≤ 8 := by omega
      clear hlk
      go_wp2_with (at_builtin; refine wpList_append_lies _ rfl _ _ 24 rfl w.heap.size 3 i0 _ 1 8 Tryd.underlying24 hi hz0 hz1 hz2 rfl (by decide) (.slice la ls.length lc) ls.length (zCells ls) rfl (hal _).lo ⟨wr.heap.size, 0, none⟩ 1 1 (zCells [(k : Int)]) rfl rfl ?c1a ?c2a (by omega) ?c3a ?c4a ?c5a (wr.heap.size + 1) ?c6a ?_)
      case c1a => exact World.news_of_block (cs := #[.int .i64 (k : Int)]) (t := 3) (fr := (0, 0)) (by first | exact (heap_alloc_new wr _) | simpa using (heap_alloc_new wr _))
      case c2a => simp [zCells, Value.oneCell']
      case c3a => unfold maxLen; omega
      case c4a => omega
      case c5a => first | omega | (simp; omega)
      try (case c6a => simp)
      intro g4 cap4 w4 hown4 hgrow4 hat4 _
      have S4 := (show Hid _ from (hal _).pushL hp hown4 hgrow4 (fun b hb => by simp only [Value.ownBlock, Option.some.injEq] at hb; subst hb; simpa using hat4))
      clear hown4 hgrow4 hat4 hal
      go_wp2_with fail
      go_roundw
      case rel => exact ⟨k + 1, ls ++ [(k : Int)], by first | rfl | go_num, by rw [List.length_append, HLK.out]; rfl, by omega, S4.out⟩
      case measure => simp [intOf]; omega
    · have hkn2 : k = n := by omega
      have HLN : Hid (ls.length = n) := by show _ = _; omega
      have hkI : ¬ (k : Int) < (n : Int) := by omega
      clear hlk
      go_wp2_with fail
      go_loopg [5, 6] n (fun gn v5 v6 wr => ∃ (ls ws : List Int) (zz : Nat), Hid (ls.length = gn) ∧ Hid (ws.length + gn = n) ∧ zz + 10 * gn ≤ z + 100 ∧ Hid (Z2 w wr p a bs c v5 ls v6 ws zz))
      case atStart => exact ⟨ls, [], z, HLN.out, by show _ = _; simp, by omega, st.out⟩
      case round =>
        clear st HLN
        obtain ⟨ls, ws, zz, HLG, HWG, hzz, st⟩ := hrel
        obtain ⟨la, lc, hu5⟩ := ownsZ_form st.out.lo
        subst hu5
        obtain ⟨wa, wc, hu6⟩ := ownsZ_form st.out.wo
        subst hu6
        have hls8 : ls.length ≤ 8 := by have := HLG.out; have := HWG.out; omega
        have hws8 : ws.length ≤ 8 := by have := HLG.out; have := HWG.out; omega
        by_cases hpos : 0 < ls.length
        · have hpI : (0 : Int) < (ls.length : Int) := by omega
          have hgk : 0 < gk := by have := HLG.out; omega
          go_wp2_with fail
          refine (pick_any _ _ _ _ _ _ _ st.out.cur (by omega)).mono ?_
          rintro r w2 ⟨q, rfl, hq0, y1, hy1, D1, g1⟩
          have st1 := st.out.step hp g1 D1
          have hq : q < ls.length := by omega
          obtain ⟨gb, go, rfl, k0⟩ := (ints_of_owns st1.lo).1 q _ (zA_get hq)
          obtain ⟨x, hx⟩ : ∃ x, zA ls q = x := ⟨_, rfl⟩
          rw [hx] at k0
          have hqI : (q : Int) < (ls.length : Int) := by omega
          clear hx st g1 D1 hq0
          have hal := fun (o : Obj) => st1.step hp (Far.of_below (alHi w2 o) (by have := st1.far.bel.size; omega)) (st1.cur.below (alHi w2 o))
          have hzs := st1.far.bel.size
          have k0s := fun (o : Obj) => celB (alHi w2 o) k0
          go_wp2_with (at_builtin; refine wpList_append_lies _ rfl _ _ 24 rfl w.heap.size 3 i0 _ 1 8 Tryd.underlying24 hi hz0 hz1 hz2 rfl (by decide) (.slice wa ws.length wc) ws.length (zCells ws) rfl (hal _).wo ⟨w2.heap.size, 0, none⟩ 1 1 (zCells [x]) rfl rfl ?c1b ?c2b (by omega) ?c3b ?c4b ?c5b (w2.heap.size + 1) ?c6b ?_)
          case c1b => exact World.news_of_block (cs := #[.int .i64 x]) (t := 3) (fr := (0, 0)) (by first | exact (heap_alloc_new w2 _) | simpa using (heap_alloc_new w2 _))
          case c2b => simp [zCells, Value.oneCell']
          case c3b => unfold maxLen; omega
          case c4b => omega
          case c5b => first | omega | (simp; omega)
          try (case c6b => simp)
          intro g4 cap4 w4 hown4 hgrow4 hat4 _
          have S4 := (hal _).pushW hp hown4 hgrow4 (fun b hb => by simp only [Value.ownBlock, Option.some.injEq] at hb; subst hb; simpa using hat4)
          clear hown4 hgrow4 hat4 hal st1 k0 k0s
          have HLG2 : Hid ((ls.eraseIdx q).length = gk - 1) := by show _ = _; rw [List.length_eraseIdx, if_pos hq, HLG.out]
          have HWG2 : Hid ((ws ++ [x]).length + (gk - 1) = n) := by show _ = _; rw [List.length_append, List.length_singleton]; have := HWG.out; omega
          have hwc := (ints_nb S4.lo hp).2
          have hI6 := (ints_of_owns S4.lo).1
          have hjc : q ≤ lc := by omega
          have hj1 : q + 1 ≤ ls.length := by omega
          have hj1I : (q : Int) + 1 ≤ (ls.length : Int) := by omega
          have hxcI : (ls.length : Int) ≤ (lc : Int) := by omega
          have hjcI : (q : Int) ≤ (lc : Int) := by omega
          have h0j : (0 : Int) ≤ (q : Int) := by omega
          have h0j1 : (0 : Int) ≤ (q : Int) + 1 := by omega
          have hW1 : IntKind.i64.wrap ((q : Int) + 1) = (q : Int) + 1 := by simp [IntKind.wrap, IntKind.bits, IntKind.signed]; omega
          have hW2 : wrap64 ((q : Int) + 1) = (q : Int) + 1 := by unfold wrap64; omega
          obtain ⟨HTL, HTL2, HN1, HN2, HN3, HN4, HEL⟩ := erase_numsZ ls q hq hls8
          have HS4 := (show Hid _ from S4)
          clear S4
          go_wp2_with fail
          obtain ⟨x0, hx0⟩ : ∃ x, w4.drew = x := ⟨_, rfl⟩
          have HB0 : Below w4.heap.size w4 x0 := by rw [← hx0]; exact (Below.refl _ _).drew
          refine wp_region_noPanic ?_
          refine wp_region_held_drew (S := fun _ => True) (by kernel_rfl) trivial (fun hHn => ?_)
          clear hHn
          rw [hx0]
          clear hx0
          refine wpAnyH_take (i := 1) (oi := ⟨_, _, _, _, _, _⟩) (v := ?vz1) rfl (by kernel_rfl) (by kernel_rfl) (by kernel_rfl) (fun _ _ _ h => h) (Or.inl ⟨by rfl, ?yz1⟩) trivial ?rz1
          case yz1 => intro w hSw; clear hSw; go_simp; try with_reducible rfl
          try simp only [Act.put, List.setIfInBounds_toArray, List.set_cons_zero, List.set_cons_succ]
          refine wpAnyH_take (i := 2) (oi := ⟨_, _, _, _, _, _⟩) (v := ?vz2) rfl (by kernel_rfl) (by kernel_rfl) (by kernel_rfl) (fun _ _ _ h => h) (Or.inl ⟨by rfl, ?yz2⟩) trivial ?rz2
          case yz2 => intro w hSw; clear hSw; go_simp; try with_reducible rfl
          try simp only [Act.put, List.setIfInBounds_toArray, List.set_cons_zero, List.set_cons_succ]
          refine wpAnyH_take (i := 3) (oi := ⟨_, _, _, _, _, _⟩) (v := ?vz3) rfl (by kernel_rfl) (by kernel_rfl) (by kernel_rfl) (fun _ _ _ h => h) (Or.inl ⟨by rfl, ?yz3⟩) trivial ?rz3
          case yz3 => intro w hSw; clear hSw; go_simp; try with_reducible rfl
          try simp only [Act.put, List.setIfInBounds_toArray, List.set_cons_zero, List.set_cons_succ]
          refine wpAnyH_take (i := 5) (oi := ⟨_, _, _, _, _, _⟩) (v := ?vz5) rfl (by kernel_rfl) (by kernel_rfl) (by kernel_rfl) (fun _ _ _ h => h) (Or.inl ⟨by rfl, ?yz5⟩) trivial ?rz5
          case yz5 => intro w hSw; clear hSw; go_simp; try with_reducible rfl
          try simp only [Act.put, List.setIfInBounds_toArray, List.set_cons_zero, List.set_cons_succ]
          refine wpAnyH_take (i := 6) (oi := ⟨_, _, _, _, _, _⟩) (v := ?vz6) rfl (by kernel_rfl) (by kernel_rfl) (by kernel_rfl) (fun _ _ _ h => h) (Or.inl ⟨by rfl, ?yz6⟩) trivial ?rz6
          case yz6 => intro w hSw; clear hSw; go_simp; try with_reducible rfl
          try simp only [Act.put, List.setIfInBounds_toArray, List.set_cons_zero, List.set_cons_succ]
          refine wpAnyH_take (i := 7) (oi := ⟨_, _, _, _, _, _⟩) (v := ?vz7) rfl (by kernel_rfl) (by kernel_rfl) (by kernel_rfl) (fun _ _ _ h => h) (Or.inl ⟨by rfl, ?yz7⟩) trivial ?rz7
          case yz7 => intro w hSw; clear hSw; go_simp; try with_reducible rfl
          try simp only [Act.put, List.setIfInBounds_toArray, List.set_cons_zero, List.set_cons_succ]
          refine wpAnyH_take (i := 8) (oi := ⟨_, _, _, _, _, _⟩) (v := ?vz8) rfl (by kernel_rfl) (by kernel_rfl) (by kernel_rfl) (fun _ _ _ h => h) (Or.inl ⟨by rfl, ?yz8⟩) trivial ?rz8
          case yz8 => intro w hSw; clear hSw; go_simp; rw [pd_eq]
          try simp only [Act.put, List.setIfInBounds_toArray, List.set_cons_zero, List.set_cons_succ]
          refine wpAnyH_ready (rs := [0]) (by kernel_rfl) (by simp) ?_
          refine AllReadyH.cons (o := ⟨_, _, _, _, _, _⟩) rfl (fun KK hK => ?_) AllReadyH.nil
          go_simp
          obtain ⟨x1, hx1⟩ : ∃ u, x0.alloc (.cells #[] 3) = u := ⟨_, rfl⟩
          have HEm : x1.heap[x0.heap.size]? = some (.cells #[] 3 (0, 0)) := by rw [← hx1]; exact heap_alloc_new _ _
          have BE : Below x0.heap.size x0 x1 := by rw [← hx1]; exact alHi _ _
          have HB1 : Below w4.heap.size w4 x1 := stHi HB0 BE
          have lx : w4.heap.size ≤ x0.heap.size := HB0.size
          go_simp
          refine hK.out _ _ trivial (fun hHn => ?_)
          clear hK KK hHn
          try simp only [Act.put, List.setIfInBounds_toArray, List.set_cons_zero, List.set_cons_succ]
          clear hx1 BE HB0
          refine wpAnyH_ready (rs := [4]) (by kernel_rfl) (by simp) ?_
          refine AllReadyH.cons (o := ⟨_, _, _, _, _, _⟩) rfl (fun KK hK => ?_) AllReadyH.nil
          have hT1 : Ints x1 (some ⟨gb, go, none⟩) (ls.take q) := ints_take (hI6.below HB1) q
          refine step_appZ _ (by rfl) _ _ 24 (by rfl) w4.heap.size 3 i0 _ 1 8 Tryd.underlying24 hi hz0 hz1 hz2 rfl (by decide) (.slice (some ⟨x0.heap.size, 0, none⟩) 0 0) 0 [] (by rfl) (owns_emptyC HEm lx) (.slice (some ⟨gb, go, none⟩) q lc) q (zCells (ls.take q)) (by rfl) (srcC HTL.out hT1) HN1.out HN2.out HB1.size ?_
          intro v1 x2 HV hgrow1 hat1
          simp only [Nat.zero_add, List.nil_append] at HV
          have HB2 := HB1.grown hgrow1 HB1.size (fun q hq => own_le lx hq)
          obtain ⟨a1, cc1, rfl⟩ := ownsZ_form HV
          refine hK.out _ _ trivial (fun hHn => ?_)
          clear hK KK hHn
          try simp only [Act.put, List.setIfInBounds_toArray, List.set_cons_zero, List.set_cons_succ]
          clear hgrow1 hat1 HEm hT1 HB1
          refine wpAnyH_ready (rs := [9]) (by kernel_rfl) (by simp) ?_
          refine AllReadyH.cons (o := ⟨_, _, _, _, _, _⟩) rfl (fun KK hK => ?_) AllReadyH.nil
          have hT2 : Ints x2 (pdA gb go lc q) (ls.drop (q + 1)) := ints_pd (hI6.below HB2) hwc hq
          refine step_appZ _ (by rfl) _ _ 24 (by rfl) w4.heap.size 3 i0 _ 1 8 Tryd.underlying24 hi hz0 hz1 hz2 rfl (by decide) (.slice a1 q cc1) q (zCells (ls.take q)) (by rfl) HV (.slice (pdA gb go lc q) (ls.length - (q + 1)) (lc - (q + 1))) (ls.length - (q + 1)) (zCells (ls.drop (q + 1))) (by first | rfl | simp) (srcC HTL2.out hT2) HN3.out HN4.out HB2.size ?_
          intro v2 x3 HV2 hgrow2 hat2
          have HB3 := HB2.grown hgrow2 HB2.size (fun q hq => (HV.lt q hq).1)
          have HV3 := erase_own HEL.out HV2
          obtain ⟨a3, cc3, rfl⟩ := ownsZ_form HV2
          refine hK.out _ _ trivial (fun hHn => ?_)
          clear hK KK hHn
          try simp only [Act.put, List.setIfInBounds_toArray, List.set_cons_zero, List.set_cons_succ]
          clear hgrow2 hat2 HV HV2 hT2 HB2
          refine wpAnyH_take (i := 10) (oi := ⟨_, _, _, _, _, _⟩) (v := ?vz10) rfl (by kernel_rfl) (by kernel_rfl) (by kernel_rfl) (fun _ _ _ h => h) (Or.inl ⟨by rfl, ?yz10⟩) trivial ?rz10
          case yz10 => intro w hSw; clear hSw; go_simp; try with_reducible rfl
          try simp only [Act.put, List.setIfInBounds_toArray, List.set_cons_zero, List.set_cons_succ]
          refine wpAnyH_done (by kernel_rfl) (NoPanic.normal ?_) _
          have HS9 := (show Hid _ from (HS4.out.swap.freshW hp HB3 HV3).swap)
          clear HV3 HB3 hI6 HTL HTL2 HN1 HN2 HN3 HN4 HS4
          go_wp2_with fail
          go_roundg (gk - 1)
          case measure => omega
          case rel => exact ⟨ls.eraseIdx q, ws ++ [x], y1, HLG2.out, HWG2.out, by omega, HS9.out⟩
        · have hwn : ws.length = n := by have := HLG.out; have := HWG.out; omega
          have hl0 : ls.length = 0 := by omega
          have S0 := st.out
          have HEV : Hid ((Ints wr wa ws ∧ ∀ b, InI wa ws.length b → b ≠ p) ∧ ws.length ≤ wc) := ints_nb S0.wo hp
          have HF0 : Hid (Far p w wr) := S0.far
          have HC0 : Hid (Cur wr p a bs c zz) := S0.cur
          have HWN : Hid (ws.length = n) := hwn
          clear hwn st HLG HWG
          rw [hl0]
          clear hl0 hpos hls8
          by_cases hn0 : 0 < n
          · have hnI : (0 : Int) < (n : Int) := by omega
            go_wp2_with fail
            refine (one_any _ _ _ _ _ _ _ S0.cur (by omega)).mono ?_
            rintro r v1 ⟨b1, rfl, ya, hya, Da, ga⟩
            have S1 := S0.step hp ga Da
            have HE1 : Hid ((Ints v1 wa ws ∧ ∀ b, InI wa ws.length b → b ≠ p) ∧ ws.length ≤ wc) := ints_nb S1.wo hp
            clear S0 ga HEV HF0 HC0
            cases b1
            · have HF : Hid (Far p w v1) := S1.far
              clear S1
              go_wp2
              go_ret
              exact ⟨wa, wc, ws, rfl, HE1.out.1, HE1.out.2, hws8, ⟨ya, by omega, Da⟩, HF.out⟩
            · go_wp2_with fail
              refine (pick_any _ _ _ _ _ _ _ Da (by omega)).mono ?_
              rintro r v2 ⟨d, rfl, hd, yb, hyb, Db, gb⟩
              have S2 := S1.step hp gb Db
              have hw0 : 0 < ws.length := by have := HWN.out; omega
              have hw0I : (0 : Int) < (ws.length : Int) := by omega
              obtain ⟨g, rfl, hg, ⟨x0, hx0⟩, hfz, hEv⟩ := ints_put (d : Int) S2.wo hw0
              have HC9 : Hid (Cur (v2.setCell ⟨g, 0, none⟩ (.int .i64 (d : Int))) p a bs c yb) := curO_set Db (by omega)
              have HF9 : Hid (Far p w (v2.setCell ⟨g, 0, none⟩ (.int .i64 (d : Int)))) := farO_set S2.far hp (by omega)
              have HE9 := (show Hid _ from hEv)
              have HGP : Hid (p < g) := by show _ < _; omega
              have HZ9 : Hid (yb ≤ z + 400) := by show _ ≤ _; omega
              have HLC : Hid (ws.length ≤ wc) := HE1.out.2
              clear hEv S1 S2 HE1 Db gb Da hd
              go_wp2
              go_ret
              exact ⟨some ⟨g, 0, none⟩, wc, _, by rw [List.length_set]; rfl, ⟨HE9.out, fun b hb => by obtain ⟨-, o, s, e⟩ := hb; simp only [Option.some.injEq, Addr.mk.injEq] at e; have := HGP.out; omega⟩, by rw [List.length_set]; exact HLC.out, by rw [List.length_set]; exact hws8, ⟨yb, HZ9.out, HC9.out⟩, HF9.out⟩
          · have hnI : ¬ (0 : Int) < (n : Int) := by omega
            have hn00 : n = 0 := by omega
            subst hn00
            clear S0
            go_wp2
            go_ret
            exact ⟨wa, wc, ws, rfl, HEV.out.1, HEV.out.2, hws8, ⟨zz, by omega, HC0.out⟩, HF0.out⟩

end Go.Proofs.YtmbfdonefpegeaaDoor
