/-
  Drawn events: the contract of spec.(*l1Cur).events.
-/
import Derived.Test.YtiabgomeogcpnaaDoorPstF
import Derived.Deep.RegionHeld3
namespace Go.Proofs.YtiabgomeogcpnaaDoor
open Go.RowKit

/-- The event under way, in a box of its own. -/
structure EB (wr u : World) (p : Nat) (a : Option Addr) (bs : List UInt8) (c z eb : Nat) (e : Ev) : Prop where
  far : Far p wr u
  cur : Cur u p a bs c z
  lo : wr.heap.size ≤ eb
  at_ : EvAt u eb 0 e
  fr : ∀ i, u.frozen? ⟨eb, i, none⟩ = false

theorem EB.new {wr u : World} {p : Nat} {a : Option Addr} {bs : List UInt8} {c z : Nat} (hf : Far p wr u) (hc : Cur u p a bs c z) (hp : p < u.heap.size) (x y m : Int) : EB wr (u.alloc (.cells #[.int .i64 x, .int .i64 y, .int .i64 m] 58)) p a bs c z u.heap.size ⟨x, y, m⟩ := by
  have hB : Below u.heap.size u (u.alloc (.cells #[.int .i64 x, .int .i64 y, .int .i64 m] 58)) := (Below.refl _ _).alloc (Nat.le_refl _) _
  exact ⟨hf.trans (Far.of_below hB (Nat.le_of_lt hp)), hc.below hB, hf.bel.size, ⟨by simp [go_sem], by simp [go_sem], by simp [go_sem]⟩, fun i => by simp [go_sem]⟩

theorem EB.step {wr u u' : World} {p : Nat} {a : Option Addr} {bs : List UInt8} {c z z' eb : Nat} {e : Ev} (h : EB wr u p a bs c z eb e) (hp : p < wr.heap.size) (hf : Far p u u') (hc : Cur u' p a bs c z') : EB wr u' p a bs c z' eb e := by
  have hb := hf.blk eb (lt_of_cell h.at_.1) (by have := h.lo; omega)
  exact ⟨h.far.trans hf, hc, h.lo, ⟨(World.cell?_of_block (a := ⟨eb, 0, none⟩) hb).trans h.at_.1, (World.cell?_of_block (a := ⟨eb, 1, none⟩) hb).trans h.at_.2.1, (World.cell?_of_block (a := ⟨eb, 2, none⟩) hb).trans h.at_.2.2⟩, fun i => (World.frozen?_of_block (a := ⟨eb, i, none⟩) hb).trans (h.fr i)⟩

theorem EB.put {wr u : World} {p : Nat} {a : Option Addr} {bs : List UInt8} {c z eb : Nat} {e : Ev} (h : EB wr u p a bs c z eb e) (hp : p < wr.heap.size) (i : Nat) (v : Value) : Far p wr (u.setCell ⟨eb, i, none⟩ v) ∧ Cur (u.setCell ⟨eb, i, none⟩ v) p a bs c z := by
  have hlo := h.lo
  have same : ∀ b, b ≠ eb → (u.setCell ⟨eb, i, none⟩ v).heap[b]? = u.heap[b]? := fun b hb => Below.heap_setCell u ⟨eb, i, none⟩ v b hb
  have hb := same p (by omega)
  obtain ⟨s, hs2⟩ := h.cur.c2
  exact ⟨⟨Below.setCell h.far.bel (p := ⟨eb, i, none⟩) (by show p ≤ eb; omega) v, fun b hb hne => (same b (by omega)).trans (h.far.blk b hb hne)⟩,
    ⟨(World.cell?_of_block (a := ⟨p, 0, none⟩) hb).trans h.cur.c0, (World.cell?_of_block (a := ⟨p, 1, none⟩) hb).trans h.cur.c1, ⟨s, (World.cell?_of_block (a := ⟨p, 2, none⟩) hb).trans hs2⟩, fun i => (World.frozen?_of_block (a := ⟨p, i, none⟩) hb).trans (h.cur.f i), h.cur.by_.of_block (fun b hi => same b (by have := h.cur.lo b hi; omega)), h.cur.lo, h.cur.sm⟩⟩

theorem EB.set1 {wr u : World} {p : Nat} {a : Option Addr} {bs : List UInt8} {c z eb : Nat} {e : Ev} (h : EB wr u p a bs c z eb e) (hp : p < wr.heap.size) (v : Int) : EB wr (u.setCell ⟨eb, 1, none⟩ (.int .i64 v)) p a bs c z eb ⟨e.pr, v, e.ms⟩ := by
  have c0 := h.at_.1
  have c1 := h.at_.2.1
  have c2 := h.at_.2.2
  have fr := h.fr
  simp only [Nat.zero_add] at c0 c1 c2
  exact ⟨(h.put hp 1 _).1, (h.put hp 1 _).2, h.lo, ⟨by simp [go_sem, c0], by simp [go_sem, c1], by simp [go_sem, c2]⟩, fun i => by simp [go_sem, fr]⟩

theorem EB.set2 {wr u : World} {p : Nat} {a : Option Addr} {bs : List UInt8} {c z eb : Nat} {e : Ev} (h : EB wr u p a bs c z eb e) (hp : p < wr.heap.size) (v : Int) : EB wr (u.setCell ⟨eb, 2, none⟩ (.int .i64 v)) p a bs c z eb ⟨e.pr, e.kd, v⟩ := by
  have c0 := h.at_.1
  have c1 := h.at_.2.1
  have c2 := h.at_.2.2
  have fr := h.fr
  simp only [Nat.zero_add] at c0 c1 c2
  exact ⟨(h.put hp 2 _).1, (h.put hp 2 _).2, h.lo, ⟨by simp [go_sem, c0], by simp [go_sem, c1], by simp [go_sem, c2]⟩, fun i => by simp [go_sem, fr]⟩

theorem EB.cp {wr u : World} {p : Nat} {a : Option Addr} {bs : List UInt8} {c z eb : Nat} {e : Ev} (h : EB wr u p a bs c z eb e) (hp : p < wr.heap.size) (o : Array Value) : EB wr (u.alloc (.cells o 58)) p a bs c z eb e := by
  have hB : Below u.heap.size u (u.alloc (.cells o 58)) := (Below.refl _ _).alloc (Nat.le_refl _) _
  exact h.step hp (Far.of_below hB (by have := h.far.bel.size; omega)) (h.cur.below hB)

theorem EB.keep {wr u w5 : World} {p : Nat} {a : Option Addr} {bs : List UInt8} {c z eb : Nat} {e : Ev} {r : Option Nat} (h : EB wr u p a bs c z eb e) (hg : u.grownBy w5 r) (hr : ∀ q, r = some q → q < wr.heap.size) : EvAt w5 eb 0 e := by
  have hb := hg.block eb (lt_of_cell h.at_.1) (fun e => by have := hr eb e.symm; have := h.lo; omega)
  exact ⟨(World.cell?_of_block (a := ⟨eb, 0, none⟩) hb).trans h.at_.1, (World.cell?_of_block (a := ⟨eb, 1, none⟩) hb).trans h.at_.2.1, (World.cell?_of_block (a := ⟨eb, 2, none⟩) hb).trans h.at_.2.2⟩

/-- Events that were drawn. -/
def EvsA (w : World) (p : Nat) (a : Option Addr) (bs : List UInt8) (c z : Nat) (e : Ending) (w' : World) : Prop :=
  ∃ (m : Int) (av : Option Addr) (cv : Nat) (l : List Ev), e = .returned (.tuple #[.int .i64 m, .slice av l.length cv]) ∧ (Evs w' av l ∧ ∀ b, InI av l.length b → b ≠ p) ∧ l.length ≤ cv ∧ l.length ≤ 25 ∧ (∃ z', z' ≤ z + 400 ∧ Cur w' p a bs c z') ∧ Far p w w'

set_option maxRecDepth 100000 in
set_option maxHeartbeats 8000000 in
theorem events_any (p : Nat) (a : Option Addr) (bs : List UInt8) (c z : Nat) (w : World) (h : Cur w p a bs c z) (hz : z ≤ 700000000) :
    Calls Tryd.prog 12 #[.pointer (some ⟨p, 0, none⟩)] w fun e w' => EvsA w p a bs c z e w' := by
  have hp : p < w.heap.size := lt_of_cell h.c0
  obtain ⟨i0, hi, hz0, hz1, hz2⟩ := infoZ Tryd.infoEv
  go_enter Tryd.func12, Tryd.ntmps12
  go_wp2_with fail
  refine (pick_any _ _ _ _ _ _ _ h (by omega)).mono ?_
  rintro r w1 ⟨pr, rfl, hpr, z1, hz1', C1, f1⟩
  go_wp2_with fail
  refine (pick_any _ _ _ _ _ _ _ C1 (by omega)).mono ?_
  rintro r w2 ⟨n0, rfl, hn0, z2, hz2', C2, f2⟩
  go_wp2_with fail
  refine (one_any _ _ _ _ _ _ _ C2 (by omega)).mono ?_
  rintro r w3 ⟨b, rfl, z3, hz3', C3, f3⟩
  have f123 := (f1.trans f2).trans f3
  clear C1 C2 f1 f2 f3
  have hp3 : p < w3.heap.size := Nat.lt_of_lt_of_le hp f123.bel.size
  have HPR : Hid (pr ≤ 4) := by show _ ≤ _; omega
  clear hpr h
  cases b
  case' false =>
    obtain ⟨zb, hzb⟩ : ∃ zb, zb = z3 := ⟨_, rfl⟩
    have hz4 : zb ≤ z + 10 := by omega
    obtain ⟨n, hn⟩ : ∃ n, n0 = n := ⟨_, rfl⟩
    have hn25 : n ≤ 25 := by omega
    obtain ⟨wb, hwb⟩ : ∃ x, w3 = x := ⟨_, rfl⟩
    rw [← hzb] at C3
    rw [hwb] at C3 f123 hp3 ⊢
    rw [hn]
    clear hzb hz3' hz2' hz1' hn hn0 hwb
    have Cb := C3
    have fb := f123
    have hpb := hp3
    clear C3 f123 hp3
    go_wp2
  case' true =>
    go_wp2_with fail
    refine (pick_any _ _ _ _ _ _ _ C3 (by omega)).mono ?_
    rintro r wb ⟨n1, rfl, hn1, zb, hzb, Cb, f4⟩
    have hz4 : zb ≤ z + 10 := by omega
    obtain ⟨n, hn⟩ : ∃ n, 24 + n1 = n := ⟨_, rfl⟩
    have hn25 : n ≤ 25 := by omega
    have fb := f123.trans f4
    have hpb : p < wb.heap.size := Nat.lt_of_lt_of_le hp3 f4.bel.size
    have hnI : (24 : Int) + (n1 : Int) = (n : Int) := by omega
    clear hzb hz3' hz2' hz1' C3 f123 hp3 f4 hn0
    go_wp2_with fail

  · go_loopw [5, 6, 7, 8] (fun v wv mv nv wr => ∃ (ls ws : List Ev) (m k zz : Nat), mv = .int .i64 (m : Int) ∧ nv = .int .i64 (k : Int) ∧ ls.length + k = n ∧ ws.length + k ≤ n ∧ m + k ≤ n ∧ zz + 10 * k ≤ zb + 250 ∧ E2 wb wr p a bs c v ls wv ws zz) (fun _ _ _ nv _ => (intOf nv).toNat)
    case atStart => exact ⟨[], [], 0, n, zb, rfl, by go_num, by simp, by simp, by omega, by omega, World.ownsRow_nil _ _ _ _, World.ownsRow_nil _ _ _ _, fun b hb => (by simp [Value.ownBlock] at hb), Cb, Far.refl _ _⟩
    case round =>
      obtain ⟨ls, ws, m, k, zz, rfl, rfl, hlk, hwk, hmk, hzz, st⟩ := hrel
      by_cases hpos : 0 < k
      · have hpI : (0 : Int) < (k : Int) := by omega
        have Cr := st.cur
        have hpr0 : p < wr.heap.size := Nat.lt_of_lt_of_le hpb st.far.bel.size
        go_wp2_with fail
        refine (pick_any _ _ _ _ _ _ _ Cr (by omega)).mono ?_
        rintro r u1 ⟨x, rfl, hx, y1, hy1, D1, g1⟩
        have hp1 : p < u1.heap.size := Nat.lt_of_lt_of_le hpr0 g1.bel.size
        go_wp2_with fail
        obtain ⟨u2, hu2⟩ : ∃ u, u1.alloc (.cells #[.int .i64 (x : Int), .int .i64 1, .int .i64 0] 58) = u := ⟨_, rfl⟩
        have EB2 : EB wr u2 p a bs c y1 u1.heap.size ⟨x, 1, 0⟩ := by rw [← hu2]; exact EB.new g1 D1 hp1 _ _ _
        obtain ⟨eb, heb⟩ : ∃ b, u1.heap.size = b := ⟨_, rfl⟩
        rw [heb] at EB2
        rw [heb, hu2]
        clear hu2 heb g1 D1 Cr hp1
        refine (pick_any _ _ _ _ _ _ _ EB2.cur (by omega)).mono ?_
        rintro r u3 ⟨y, rfl, hy, y2, hy2, D3, g3⟩
        have EB3 := EB2.step hpr0 g3 D3
        clear EB2 g3 D3
        have c0 := EB3.at_.1
        have c1 := EB3.at_.2.1
        have c2 := EB3.at_.2.2
        have fr := EB3.fr
        obtain ⟨wa, wc, rfl⟩ := ownsZ_form st.wo
        obtain ⟨la, lc, rfl⟩ := ownsZ_form st.lo
        by_cases hy0 : y = 0
        · subst hy0
          have hE := fun v1 v2 (o : Array Value) => ((EB3.set1 hpr0 v1).set2 hpr0 v2).cp hpr0 o
          have hst6 := fun v1 v2 (o : Array Value) => st.step hpb (hE v1 v2 o).far (hE v1 v2 o).cur
          go_wp2_with (at_builtin; refine wpList_append_lies _ rfl _ _ 23 rfl wb.heap.size 58 i0 _ 3 24 Tryd.underlying23 hi hz0 hz1 hz2 rfl (by decide) (.slice wa ws.length wc) ws.length (ws.flatMap evC) rfl (hst6 _ _ _).wo ⟨u3.heap.size, 0, none⟩ 1 1 (evC ⟨x, 2, ((m : Int) + 1)⟩) rfl rfl (by first | exact World.news_of_block (cs := #[.int .i64 (x : Int), .int .i64 2, .int .i64 ((m : Int) + 1)]) (t := 58) (fr := (0, 0)) (by first | exact (heap_alloc_new ((u3.setCell ⟨eb, 1, none⟩ (.int .i64 2)).setCell ⟨eb, 2, none⟩ (.int .i64 ((m : Int) + 1))) _) | simpa [go_sem] using (heap_alloc_new ((u3.setCell ⟨eb, 1, none⟩ (.int .i64 2)).setCell ⟨eb, 2, none⟩ (.int .i64 ((m : Int) + 1))) _))) (evC_one _) (by omega) (by unfold maxLen; omega) (by omega) (by have := st.far.bel.size; have := EB3.far.bel.size; simp; omega) _ rfl ?_)
          intro g8 cap8 w8 hown8 hgrow8 hat8 _
          have HSw := (show Hid _ from (hst6 _ _ _).pushW hpb hown8 hgrow8 (fun b hb => by simp only [Value.ownBlock, Option.some.injEq] at hb; subst hb; simpa using hat8))
          have HE8 := (hE _ _ _).keep hgrow8 (fun q hq => (st.wo.lt q hq).2)
          clear hgrow8 hown8 hat8 hst6 hE
          have e0 := HE8.1
          have e1 := HE8.2.1
          have e2 := HE8.2.2
          clear c0 c1 c2 fr EB3 st
          have hal := fun (o : Array Value) => (HSw.out).step hpb (Far.of_below ((Below.refl w8.heap.size w8).alloc (Nat.le_refl _) (.cells o 58)) (by have := HSw.out.far.bel.size; omega)) (HSw.out.cur.below ((Below.refl _ _).alloc (Nat.le_refl _) (.cells o 58)))
          go_wp2_with (at_builtin; refine wpList_append_lies _ rfl _ _ 23 rfl wb.heap.size 58 i0 _ 3 24 Tryd.underlying23 hi hz0 hz1 hz2 rfl (by decide) (.slice la ls.length lc) ls.length (ls.flatMap evC) rfl (hal _).lo ⟨w8.heap.size, 0, none⟩ 1 1 (evC ⟨x, 2, ((m : Int) + 1)⟩) rfl rfl (by first | exact World.news_of_block (cs := #[.int .i64 (x : Int), .int .i64 2, .int .i64 ((m : Int) + 1)]) (t := 58) (fr := (0, 0)) (by first | exact (heap_alloc_new w8 _) | simpa [go_sem] using (heap_alloc_new w8 _))) (evC_one _) (by omega) (by unfold maxLen; omega) (by omega) (by have := HSw.out.far.bel.size; simp; omega) _ rfl ?_)
          intro g9 cap9 w9 hown9 hgrow9 hat9 _
          have HS9 := (show Hid _ from (hal _).pushL hpb hown9 hgrow9 (fun b hb => by simp only [Value.ownBlock, Option.some.injEq] at hb; subst hb; simpa using hat9))
          clear hgrow9 hown9 hat9 hal HSw e0 e1 e2
          go_wp2_with fail
          go_roundw
          case rel => exact ⟨ls ++ [⟨x, 2, ((m : Int) + 1)⟩], ws ++ [⟨x, 2, (m : Int) + 1⟩], m + 1, k - 1, y2, by congr 1, by congr 1; omega, by simp; omega, by first | omega | (simp; omega), by omega, by omega, HS9.out⟩
          case measure => simp [intOf]; omega
        · have hyI : 0 < y := by omega
          by_cases hy1' : y = 1
          · subst hy1'
            clear hyI
            by_cases hw0 : 0 < ws.length
            · have hwI : (0 : Int) < (ws.length : Int) := by omega
              have hst3 := st.step hpb EB3.far EB3.cur
              go_wp2_with fail
              refine (pick_any _ _ _ _ _ _ _ EB3.cur (by omega)).mono ?_
              rintro r u4 ⟨q, rfl, hq, y3, hy3, D4, g4⟩
              have EB4 := EB3.step hpr0 g4 D4
              have st4 := hst3.step hpb g4 D4
              have hq : q < ws.length := by omega
              obtain ⟨eq, heq⟩ := getEv hq
              obtain ⟨gb, go, rfl, f0, f1', f2'⟩ := (evs_of_owns st4.wo).1 _ _ heq
              have hqI : (q : Int) < (ws.length : Int) := by omega
              have st0 := st
              clear EB3 c0 c1 c2 fr hst3 g4 D4 st
              have c0 := EB4.at_.1
              have c1 := EB4.at_.2.1
              have c2 := EB4.at_.2.2
              have fr := EB4.fr
              have EB3 := EB4
              have hdr : Below u4.heap.size u4 u4.drew := (Below.refl _ _).drew
              have EB3 := EB4.step hpr0 (Far.of_below hdr (by have := EB4.far.bel.size; omega)) (EB4.cur.below hdr)
              have st := st4.step hpb (Far.of_below hdr (by have := EB4.far.bel.size; omega)) (EB4.cur.below hdr)
              by_cases hsame : eq.pr = (x : Int)
              · have hsB : (eq.pr != (x : Int)) = false := by simp [hsame]
                go_wp2_with fail
                go_region
                clear EB4 st4 c0 c1 c2 fr
                obtain ⟨u5, hu5⟩ : ∃ u, u4.drew = u := ⟨_, rfl⟩
                rw [hu5] at EB3 st ⊢
                clear hu5 hdr f0 f1' f2'
                have HSw := (show Hid _ from st)
                have e0 := EB3.at_.1
                have e1 := EB3.at_.2.1
                have e2 := EB3.at_.2.2
                clear EB3 st
                have hal := fun (o : Array Value) => (HSw.out).step hpb (Far.of_below ((Below.refl u5.heap.size u5).alloc (Nat.le_refl _) (.cells o 58)) (by have := HSw.out.far.bel.size; omega)) (HSw.out.cur.below ((Below.refl _ _).alloc (Nat.le_refl _) (.cells o 58)))
                go_wp2_with (at_builtin; refine wpList_append_lies _ rfl _ _ 23 rfl wb.heap.size 58 i0 _ 3 24 Tryd.underlying23 hi hz0 hz1 hz2 rfl (by decide) (.slice la ls.length lc) ls.length (ls.flatMap evC) rfl (hal _).lo ⟨u5.heap.size, 0, none⟩ 1 1 (evC ⟨x, 1, 0⟩) rfl rfl (by first | exact World.news_of_block (cs := #[.int .i64 (x : Int), .int .i64 1, .int .i64 0]) (t := 58) (fr := (0, 0)) (by first | exact (heap_alloc_new u5 _) | simpa [go_sem] using (heap_alloc_new u5 _))) (evC_one _) (by omega) (by unfold maxLen; omega) (by omega) (by have := HSw.out.far.bel.size; simp; omega) _ rfl ?_)
                intro g9 cap9 w9 hown9 hgrow9 hat9 _
                have HS9 := (show Hid _ from (hal _).pushL hpb hown9 hgrow9 (fun b hb => by simp only [Value.ownBlock, Option.some.injEq] at hb; subst hb; simpa using hat9))
                clear hgrow9 hown9 hat9 hal HSw e0 e1 e2
                go_wp2_with fail
                go_roundw
                case rel => exact ⟨ls ++ [⟨x, 1, 0⟩], ws, m, k - 1, y3, by congr 1, by congr 1; omega, by simp; omega, by first | omega | (simp; omega), by omega, by omega, HS9.out⟩
                case measure => simp [intOf]; omega
              · have hsB : (eq.pr != (x : Int)) = true := by simp [hsame]
                go_wp2_with fail
                go_region
                have hgb := st0.wo.lt gb rfl
                have hne : gb ≠ eb := by have := EB3.lo; omega
                obtain ⟨u5, hu5⟩ : ∃ u, u4.drew = u := ⟨_, rfl⟩
                rw [hu5] at EB3 st ⊢
                clear hu5 hdr f0 f1' f2' EB4 st4 c0 c1 c2 fr
                obtain ⟨gb', go', ea, k0, k1, k2⟩ := (evs_of_owns st.wo).1 _ _ heq
                simp only [Option.some.injEq, Addr.mk.injEq, and_true] at ea
                obtain ⟨rfl, rfl⟩ := ea
                have f2s : ∀ v, (u5.setCell ⟨eb, 1, none⟩ v).cell? ⟨gb, go + q * 3 + 2, none⟩ = some (.int .i64 eq.ms) := fun v => (World.cell?_of_block (a := ⟨gb, go + q * 3 + 2, none⟩) (Below.heap_setCell u5 ⟨eb, 1, none⟩ v gb hne)).trans k2
                have hwc := (evs_of_owns st.wo).2
                have c0 := EB3.at_.1
                have c1 := EB3.at_.2.1
                have c2 := EB3.at_.2.2
                have fr := EB3.fr
                have EB6 := (EB3.set1 hpr0 3).set2 hpr0 eq.ms
                have st6 := st0.step hpb EB6.far EB6.cur
                clear k0 k1 k2 EB3 st st0 hsB hsame
                have hws25 : ws.length ≤ 25 := by omega
                have hjc : q ≤ wc := by omega
                have hj1 : q + 1 ≤ ws.length := by omega
                have hj1I : (q : Int) + 1 ≤ (ws.length : Int) := by omega
                have hxcI : (ws.length : Int) ≤ (wc : Int) := by omega
                have hjcI : (q : Int) ≤ (wc : Int) := by omega
                have h0j : (0 : Int) ≤ (q : Int) := by omega
                have h0j1 : (0 : Int) ≤ (q : Int) + 1 := by omega
                have hW1 : IntKind.i64.wrap ((q : Int) + 1) = (q : Int) + 1 := by simp [IntKind.wrap, IntKind.bits, IntKind.signed]; omega
                have hW2 : wrap64 ((q : Int) + 1) = (q : Int) + 1 := by unfold wrap64; omega
                obtain ⟨HTL, HTL2, HN1, HN2, HN3, HN4, HEL⟩ := erase_numsE ws q hq hws25
                have HWK : Hid ((ws.eraseIdx q).length + (k - 1) ≤ n) := wk_le HEL.out hq hwk
                go_wp2_with fail
                obtain ⟨u6, hu6⟩ : ∃ u, ((u5.setCell ⟨eb, 1, none⟩ (.int .i64 3)).setCell ⟨eb, 2, none⟩ (.int .i64 eq.ms)) = u := ⟨_, rfl⟩
                rw [hu6] at EB6 st6 ⊢
                clear hu6 f2s c0 c1 c2 fr
                obtain ⟨x0, hx0⟩ : ∃ x, u6.drew = x := ⟨_, rfl⟩
                have HB0 : Below u6.heap.size u6 x0 := by rw [← hx0]; exact (Below.refl _ _).drew
                refine wp_region_noPanic ?_
                refine wp_region_held_drew (S := fun _ => True) (by kernel_rfl) trivial (fun hHn => ?_)
                clear hHn
                rw [hx0]
                clear hx0
                refine wpAnyH_take (i := 1) (oi := ⟨_, _, _, _, _, _⟩) (v := ?vz1) rfl (by kernel_rfl) (by kernel_rfl) (by kernel_rfl) (fun _ _ _ h => h) (Or.inl ⟨by rfl, ?yz1⟩) trivial ?rz1
                case yz1 => intro w hSw; clear hSw; go_simp; try with_reducible rfl
                try simp only [Act.put, List.setIfInBounds_toArray, List.set_cons_zero, List.set_cons_succ]
                refine wpAnyH_take (i := 2) (oi := ⟨_, _, _, _, _, _⟩) (v := ?vz2) rfl (by kernel_rfl) (by kernel_rfl) (by kernel_rfl) (fun _ _ _ h => h) (Or.inl ⟨by rfl, ?yz2⟩) trivial ?rz2
                case yz2 => intro w hSw; clear hSw; go_simp; try with_reducible rfl
                try simp only [Act.put, List.setIfInBounds_toArray, List.set_cons_zero, List.set_cons_succ]
                refine wpAnyH_take (i := 3) (oi := ⟨_, _, _, _, _, _⟩) (v := ?vz3) rfl (by kernel_rfl) (by kernel_rfl) (by kernel_rfl) (fun _ _ _ h => h) (Or.inl ⟨by rfl, ?yz3⟩) trivial ?rz3
                case yz3 => intro w hSw; clear hSw; go_simp; try with_reducible rfl
                try simp only [Act.put, List.setIfInBounds_toArray, List.set_cons_zero, List.set_cons_succ]
                refine wpAnyH_take (i := 5) (oi := ⟨_, _, _, _, _, _⟩) (v := ?vz5) rfl (by kernel_rfl) (by kernel_rfl) (by kernel_rfl) (fun _ _ _ h => h) (Or.inl ⟨by rfl, ?yz5⟩) trivial ?rz5
                case yz5 => intro w hSw; clear hSw; go_simp; try with_reducible rfl
                try simp only [Act.put, List.setIfInBounds_toArray, List.set_cons_zero, List.set_cons_succ]
                refine wpAnyH_take (i := 6) (oi := ⟨_, _, _, _, _, _⟩) (v := ?vz6) rfl (by kernel_rfl) (by kernel_rfl) (by kernel_rfl) (fun _ _ _ h => h) (Or.inl ⟨by rfl, ?yz6⟩) trivial ?rz6
                case yz6 => intro w hSw; clear hSw; go_simp; try with_reducible rfl
                try simp only [Act.put, List.setIfInBounds_toArray, List.set_cons_zero, List.set_cons_succ]
                refine wpAnyH_take (i := 7) (oi := ⟨_, _, _, _, _, _⟩) (v := ?vz7) rfl (by kernel_rfl) (by kernel_rfl) (by kernel_rfl) (fun _ _ _ h => h) (Or.inl ⟨by rfl, ?yz7⟩) trivial ?rz7
                case yz7 => intro w hSw; clear hSw; go_simp; try with_reducible rfl
                try simp only [Act.put, List.setIfInBounds_toArray, List.set_cons_zero, List.set_cons_succ]
                refine wpAnyH_take (i := 8) (oi := ⟨_, _, _, _, _, _⟩) (v := ?vz8) rfl (by kernel_rfl) (by kernel_rfl) (by kernel_rfl) (fun _ _ _ h => h) (Or.inl ⟨by rfl, ?yz8⟩) trivial ?rz8
                case yz8 => intro w hSw; clear hSw; go_simp; rw [pdE_eq]
                try simp only [Act.put, List.setIfInBounds_toArray, List.set_cons_zero, List.set_cons_succ]
                refine wpAnyH_ready (rs := [0]) (by kernel_rfl) (by simp) ?_
                refine AllReadyH.cons (o := ⟨_, _, _, _, _, _⟩) rfl (fun KK hK => ?_) AllReadyH.nil
                go_simp
                obtain ⟨x1, hx1⟩ : ∃ u, x0.alloc (.cells #[] 58) = u := ⟨_, rfl⟩
                have HEm : x1.heap[x0.heap.size]? = some (.cells #[] 58 (0, 0)) := by rw [← hx1]; exact heap_alloc_new _ _
                have BE : Below x0.heap.size x0 x1 := by rw [← hx1]; exact (Below.refl _ _).alloc (Nat.le_refl _) _
                have HB1 : Below u6.heap.size u6 x1 := HB0.trans (BE.mono HB0.size)
                have lx : u6.heap.size ≤ x0.heap.size := HB0.size
                go_simp
                refine hK.out _ _ trivial (fun hHn => ?_)
                clear hK KK hHn
                try simp only [Act.put, List.setIfInBounds_toArray, List.set_cons_zero, List.set_cons_succ]
                clear hx1 BE HB0
                have hE6 := evs_of_owns st6.wo
                refine wpAnyH_ready (rs := [4]) (by kernel_rfl) (by simp) ?_
                refine AllReadyH.cons (o := ⟨_, _, _, _, _, _⟩) rfl (fun KK hK => ?_) AllReadyH.nil
                have hT1 : Evs x1 (some ⟨gb, go, none⟩) (ws.take q) := evs_take (hE6.1.below HB1) q
                refine step_appZ _ (by rfl) _ _ 23 (by rfl) u6.heap.size 58 i0 _ 3 24 Tryd.underlying23 hi hz0 hz1 hz2 rfl (by decide) (.slice (some ⟨x0.heap.size, 0, none⟩) 0 0) 0 [] (by rfl) (owns_emptyE HEm lx) (.slice (some ⟨gb, go, none⟩) q wc) q ((ws.take q).flatMap evC) (by rfl) (srcE HTL.out hT1) HN1.out HN2.out HB1.size ?_
                intro v1 x2 HV hgrow1 hat1
                simp only [Nat.zero_add, List.nil_append] at HV
                have HB2 := HB1.grown hgrow1 HB1.size (fun q hq => own_leE lx hq)
                obtain ⟨a1, cc1, rfl⟩ := ownsZ_form HV
                refine hK.out _ _ trivial (fun hHn => ?_)
                clear hK KK hHn
                try simp only [Act.put, List.setIfInBounds_toArray, List.set_cons_zero, List.set_cons_succ]
                clear hgrow1 hat1 HEm hT1 HB1
                refine wpAnyH_ready (rs := [9]) (by kernel_rfl) (by simp) ?_
                refine AllReadyH.cons (o := ⟨_, _, _, _, _, _⟩) rfl (fun KK hK => ?_) AllReadyH.nil
                have hT2 : Evs x2 (pdE gb go wc q) (ws.drop (q + 1)) := evs_pd (hE6.1.below HB2) hwc hq
                refine step_appZ _ (by rfl) _ _ 23 (by rfl) u6.heap.size 58 i0 _ 3 24 Tryd.underlying23 hi hz0 hz1 hz2 rfl (by decide) (.slice a1 q cc1) q ((ws.take q).flatMap evC) (by rfl) HV (.slice (pdE gb go wc q) (ws.length - (q + 1)) (wc - (q + 1))) (ws.length - (q + 1)) ((ws.drop (q + 1)).flatMap evC) (by first | rfl | simp) (srcE HTL2.out hT2) HN3.out HN4.out HB2.size ?_
                intro v2 x3 HV2 hgrow2 hat2
                have HB3 := HB2.grown hgrow2 HB2.size (fun q hq => (HV.lt q hq).1)
                have HV3 := erase_ownE HEL.out HV2
                obtain ⟨a3, cc3, rfl⟩ := ownsZ_form HV2
                refine hK.out _ _ trivial (fun hHn => ?_)
                clear hK KK hHn
                try simp only [Act.put, List.setIfInBounds_toArray, List.set_cons_zero, List.set_cons_succ]
                clear hgrow2 hat2 HV HV2 hT2 HB2
                refine wpAnyH_take (i := 10) (oi := ⟨_, _, _, _, _, _⟩) (v := ?vz10) rfl (by kernel_rfl) (by kernel_rfl) (by kernel_rfl) (fun _ _ _ h => h) (Or.inl ⟨by rfl, ?yz10⟩) trivial ?rz10
                case yz10 => intro w hSw; clear hSw; go_simp; try with_reducible rfl
                try simp only [Act.put, List.setIfInBounds_toArray, List.set_cons_zero, List.set_cons_succ]
                refine wpAnyH_done (by kernel_rfl) (NoPanic.normal ?_) _
                have st9 := st6.freshW hpb HB3 HV3
                have EA := EB6.at_.below HB3
                have HSw := (show Hid _ from st9)
                clear st9 st6 EB6 HV3 HB3 hE6 HTL HTL2 HN1 HN2 HN3 HN4
                have e0 := EA.1
                have e1 := EA.2.1
                have e2 := EA.2.2
                clear EA
                have hal := fun (o : Array Value) => (HSw.out).step hpb (Far.of_below ((Below.refl x3.heap.size x3).alloc (Nat.le_refl _) (.cells o 58)) (by have := HSw.out.far.bel.size; omega)) (HSw.out.cur.below ((Below.refl _ _).alloc (Nat.le_refl _) (.cells o 58)))
                go_wp2_with (at_builtin; refine wpList_append_lies _ rfl _ _ 23 rfl wb.heap.size 58 i0 _ 3 24 Tryd.underlying23 hi hz0 hz1 hz2 rfl (by decide) (.slice la ls.length lc) ls.length (ls.flatMap evC) rfl (hal _).lo ⟨x3.heap.size, 0, none⟩ 1 1 (evC ⟨x, 3, eq.ms⟩) rfl rfl (by first | exact World.news_of_block (cs := #[.int .i64 (x : Int), .int .i64 3, .int .i64 eq.ms]) (t := 58) (fr := (0, 0)) (by first | exact (heap_alloc_new x3 _) | simpa [go_sem] using (heap_alloc_new x3 _))) (evC_one _) (by omega) (by unfold maxLen; omega) (by omega) (by have := HSw.out.far.bel.size; simp; omega) _ rfl ?_)
                intro g9 cap9 w9 hown9 hgrow9 hat9 _
                have HS9 := (show Hid _ from (hal _).pushL hpb hown9 hgrow9 (fun b hb => by simp only [Value.ownBlock, Option.some.injEq] at hb; subst hb; simpa using hat9))
                clear hgrow9 hown9 hat9 hal HSw e0 e1 e2
                go_wp2_with fail
                go_roundw
                case rel => exact ⟨ls ++ [⟨x, 3, eq.ms⟩], ws.eraseIdx q, m, k - 1, y3, by congr 1, by congr 1; omega, by simp; omega, HWK.out, by omega, by omega, HS9.out⟩
                case measure => simp [intOf]; omega
            · obtain rfl : ws = [] := List.eq_nil_of_length_eq_zero (by omega)
              clear hw0
              have HSw := (show Hid _ from st.step hpb EB3.far EB3.cur)
              have e0 := EB3.at_.1
              have e1 := EB3.at_.2.1
              have e2 := EB3.at_.2.2
              clear c0 c1 c2 fr EB3 st
              have hal := fun (o : Array Value) => (HSw.out).step hpb (Far.of_below ((Below.refl u3.heap.size u3).alloc (Nat.le_refl _) (.cells o 58)) (by have := HSw.out.far.bel.size; omega)) (HSw.out.cur.below ((Below.refl _ _).alloc (Nat.le_refl _) (.cells o 58)))
              go_wp2_with (at_builtin; refine wpList_append_lies _ rfl _ _ 23 rfl wb.heap.size 58 i0 _ 3 24 Tryd.underlying23 hi hz0 hz1 hz2 rfl (by decide) (.slice la ls.length lc) ls.length (ls.flatMap evC) rfl (hal _).lo ⟨u3.heap.size, 0, none⟩ 1 1 (evC ⟨x, 1, 0⟩) rfl rfl (by first | exact World.news_of_block (cs := #[.int .i64 (x : Int), .int .i64 1, .int .i64 0]) (t := 58) (fr := (0, 0)) (by first | exact (heap_alloc_new u3 _) | simpa [go_sem] using (heap_alloc_new u3 _))) (evC_one _) (by omega) (by unfold maxLen; omega) (by omega) (by have := HSw.out.far.bel.size; simp; omega) _ rfl ?_)
              intro g9 cap9 w9 hown9 hgrow9 hat9 _
              have HS9 := (show Hid _ from (hal _).pushL hpb hown9 hgrow9 (fun b hb => by simp only [Value.ownBlock, Option.some.injEq] at hb; subst hb; simpa using hat9))
              clear hgrow9 hown9 hat9 hal HSw e0 e1 e2
              go_wp2_with fail
              go_roundw
              case rel => exact ⟨ls ++ [⟨x, 1, 0⟩], [], m, k - 1, y2, by congr 1, by congr 1; omega, by simp; omega, by first | omega | (simp; omega), by omega, by omega, HS9.out⟩
              case measure => simp [intOf]; omega
          · obtain rfl : y = 2 := by omega
            clear hyI
            have HSw := (show Hid _ from st.step hpb EB3.far EB3.cur)
            have e0 := EB3.at_.1
            have e1 := EB3.at_.2.1
            have e2 := EB3.at_.2.2
            clear c0 c1 c2 fr EB3 st
            have hal := fun (o : Array Value) => (HSw.out).step hpb (Far.of_below ((Below.refl u3.heap.size u3).alloc (Nat.le_refl _) (.cells o 58)) (by have := HSw.out.far.bel.size; omega)) (HSw.out.cur.below ((Below.refl _ _).alloc (Nat.le_refl _) (.cells o 58)))
            go_wp2_with (at_builtin; refine wpList_append_lies _ rfl _ _ 23 rfl wb.heap.size 58 i0 _ 3 24 Tryd.underlying23 hi hz0 hz1 hz2 rfl (by decide) (.slice la ls.length lc) ls.length (ls.flatMap evC) rfl (hal _).lo ⟨u3.heap.size, 0, none⟩ 1 1 (evC ⟨x, 1, 0⟩) rfl rfl (by first | exact World.news_of_block (cs := #[.int .i64 (x : Int), .int .i64 1, .int .i64 0]) (t := 58) (fr := (0, 0)) (by first | exact (heap_alloc_new u3 _) | simpa [go_sem] using (heap_alloc_new u3 _))) (evC_one _) (by omega) (by unfold maxLen; omega) (by omega) (by have := HSw.out.far.bel.size; simp; omega) _ rfl ?_)
            intro g9 cap9 w9 hown9 hgrow9 hat9 _
            have HS9 := (show Hid _ from (hal _).pushL hpb hown9 hgrow9 (fun b hb => by simp only [Value.ownBlock, Option.some.injEq] at hb; subst hb; simpa using hat9))
            clear hgrow9 hown9 hat9 hal HSw e0 e1 e2
            go_wp2_with fail
            go_roundw
            case rel => exact ⟨ls ++ [⟨x, 1, 0⟩], ws, m, k - 1, y2, by congr 1, by congr 1; omega, by simp; omega, by first | omega | (simp; omega), by omega, by omega, HS9.out⟩
            case measure => simp [intOf]; omega
      · obtain rfl : k = 0 := by omega
        obtain ⟨la, lc, rfl⟩ := ownsZ_form st.lo
        have hev := evs_nb st.lo hpb
        have C9 := st.cur
        have f9 := fb.trans st.far
        have hl25 : ls.length ≤ 25 := by omega
        by_cases hl0 : 0 < ls.length
        · have hlI : (0 : Int) < (ls.length : Int) := by omega
          go_wp2_with fail
          refine (one_any _ _ _ _ _ _ _ C9 (by omega)).mono ?_
          rintro r v1 ⟨b1, rfl, yy, hyy, E1, h1⟩
          have st1 := st.step hpb h1 E1
          have hev1 := evs_nb st1.lo hpb
          have HEV : Hid ((Evs v1 la ls ∧ ∀ b, InI la ls.length b → b ≠ p) ∧ ls.length ≤ lc) := hev1
          have fx := f9.trans h1
          clear hev hev1 C9 f9 h1
          cases b1
          · go_wp2
            go_ret2
            exact ⟨_, la, lc, ls, rfl, HEV.out.1, HEV.out.2, hl25, ⟨yy, by omega, E1⟩, fx⟩
          · go_wp2_with fail
            refine (pick_any _ _ _ _ _ _ _ E1 (by omega)).mono ?_
            rintro r v2 ⟨j, rfl, hj, y4, hy4, F2, h2⟩
            have st2 := st1.step hpb h2 F2
            go_wp2_with fail
            refine (pick_any _ _ _ _ _ _ _ F2 (by omega)).mono ?_
            rintro r v3 ⟨d0, rfl, hd0, y5, hy5, F3, h3⟩
            have st3 := st2.step hpb h3 F3
            go_wp2_with fail
            refine (pick_any _ _ _ _ _ _ _ F3 (by omega)).mono ?_
            rintro r v4 ⟨d1, rfl, hd1, y6, hy6, F4, h4⟩
            have st4 := st3.step hpb h4 F4
            go_wp2_with fail
            refine (pick_any _ _ _ _ _ _ _ F4 (by omega)).mono ?_
            rintro r v5 ⟨d2, rfl, hd2, y7, hy7, F5, h5⟩
            have st5 := st4.step hpb h5 F5
            have hjl : j < ls.length := by omega
            have hjI : (j : Int) < (ls.length : Int) := by omega
            obtain ⟨g, rfl, hg, ⟨w0, hw0⟩, ⟨w1x, hw1⟩, ⟨w2x, hw2⟩, hfz, hlc, hEv⟩ := evs_put ⟨(d0 : Int), (d1 : Int), (d2 : Int)⟩ st5.lo hjl
            have hgw : w.heap.size ≤ g := Nat.le_trans fb.bel.size hg
            have HC9 : Hid (Cur (((v5.setCell ⟨g, j * 3, none⟩ (.int .i64 (d0 : Int))).setCell ⟨g, j * 3 + 1, none⟩ (.int .i64 (d1 : Int))).setCell ⟨g, j * 3 + 2, none⟩ (.int .i64 (d2 : Int))) p a bs c y7) := cur_set (cur_set (cur_set F5 (by omega)) (by omega)) (by omega)
            have HF9 : Hid (Far p w (((v5.setCell ⟨g, j * 3, none⟩ (.int .i64 (d0 : Int))).setCell ⟨g, j * 3 + 1, none⟩ (.int .i64 (d1 : Int))).setCell ⟨g, j * 3 + 2, none⟩ (.int .i64 (d2 : Int)))) := far_set (far_set (far_set ((((fx.trans h2).trans h3).trans h4).trans h5) hp hgw) hp hgw) hp hgw
            have HEv : Hid (Evs (((v5.setCell ⟨g, j * 3, none⟩ (.int .i64 (d0 : Int))).setCell ⟨g, j * 3 + 1, none⟩ (.int .i64 (d1 : Int))).setCell ⟨g, j * 3 + 2, none⟩ (.int .i64 (d2 : Int))) (some ⟨g, 0, none⟩) (ls.set j ⟨(d0 : Int), (d1 : Int), (d2 : Int)⟩)) := hEv
            have HGP : Hid (p < g) := by show _ < _; omega
            have HZ9 : Hid (y7 ≤ z + 400) := by show _ ≤ _; omega
            clear hEv st st1 st2 st3 st4 st5 HEV fx h2 h3 h4 h5 E1 F2 F3 F4 F5
            go_wp2
            go_ret2
            exact ⟨_, some ⟨g, 0, none⟩, lc, ls.set j ⟨(d0 : Int), (d1 : Int), (d2 : Int)⟩, by rw [List.length_set]; rfl, ⟨HEv.out, fun b hb => by obtain ⟨-, o, s, e⟩ := hb; simp only [Option.some.injEq, Addr.mk.injEq] at e; have := HGP.out; omega⟩, by rw [List.length_set]; exact hlc, by rw [List.length_set]; exact hl25, ⟨y7, HZ9.out, HC9.out⟩, HF9.out⟩
        · have hlI : ¬ (0 : Int) < (ls.length : Int) := by omega
          have HEV : Hid ((Evs wr la ls ∧ ∀ b, InI la ls.length b → b ≠ p) ∧ ls.length ≤ lc) := hev
          clear hev hl0
          obtain ⟨nl, hnl⟩ : ∃ x, ls.length = x := ⟨_, rfl⟩
          have hnl0 : nl = 0 := by omega
          subst hnl0
          rw [hnl]
          go_wp2
          go_ret2
          exact ⟨_, la, lc, ls, by rw [hnl]; rfl, HEV.out.1, HEV.out.2, hl25, ⟨zz, by omega, C9⟩, f9⟩
  · go_loopw [5, 6, 7, 8] (fun v wv mv nv wr => ∃ (ls ws : List Ev) (m k zz : Nat), mv = .int .i64 (m : Int) ∧ nv = .int .i64 (k : Int) ∧ ls.length + k = n ∧ ws.length + k ≤ n ∧ m + k ≤ n ∧ zz + 10 * k ≤ zb + 250 ∧ E2 wb wr p a bs c v ls wv ws zz) (fun _ _ _ nv _ => (intOf nv).toNat)
    case atStart => exact ⟨[], [], 0, n, zb, rfl, by go_num, by simp, by simp, by omega, by omega, World.ownsRow_nil _ _ _ _, World.ownsRow_nil _ _ _ _, fun b hb => (by simp [Value.ownBlock] at hb), Cb, Far.refl _ _⟩
    case round =>
      obtain ⟨ls, ws, m, k, zz, rfl, rfl, hlk, hwk, hmk, hzz, st⟩ := hrel
      by_cases hpos : 0 < k
      · have hpI : (0 : Int) < (k : Int) := by omega
        have Cr := st.cur
        have hpr0 : p < wr.heap.size := Nat.lt_of_lt_of_le hpb st.far.bel.size
        go_wp2_with fail
        refine (pick_any _ _ _ _ _ _ _ Cr (by omega)).mono ?_
        rintro r u1 ⟨x, rfl, hx, y1, hy1, D1, g1⟩
        have hp1 : p < u1.heap.size := Nat.lt_of_lt_of_le hpr0 g1.bel.size
        go_wp2_with fail
        obtain ⟨u2, hu2⟩ : ∃ u, u1.alloc (.cells #[.int .i64 (x : Int), .int .i64 1, .int .i64 0] 58) = u := ⟨_, rfl⟩
        have EB2 : EB wr u2 p a bs c y1 u1.heap.size ⟨x, 1, 0⟩ := by rw [← hu2]; exact EB.new g1 D1 hp1 _ _ _
        obtain ⟨eb, heb⟩ : ∃ b, u1.heap.size = b := ⟨_, rfl⟩
        rw [heb] at EB2
        rw [heb, hu2]
        clear hu2 heb g1 D1 Cr hp1
        refine (pick_any _ _ _ _ _ _ _ EB2.cur (by omega)).mono ?_
        rintro r u3 ⟨y, rfl, hy, y2, hy2, D3, g3⟩
        have EB3 := EB2.step hpr0 g3 D3
        clear EB2 g3 D3
        have c0 := EB3.at_.1
        have c1 := EB3.at_.2.1
        have c2 := EB3.at_.2.2
        have fr := EB3.fr
        obtain ⟨wa, wc, rfl⟩ := ownsZ_form st.wo
        obtain ⟨la, lc, rfl⟩ := ownsZ_form st.lo
        by_cases hy0 : y = 0
        · subst hy0
          have hE := fun v1 v2 (o : Array Value) => ((EB3.set1 hpr0 v1).set2 hpr0 v2).cp hpr0 o
          have hst6 := fun v1 v2 (o : Array Value) => st.step hpb (hE v1 v2 o).far (hE v1 v2 o).cur
          go_wp2_with (at_builtin; refine wpList_append_lies _ rfl _ _ 23 rfl wb.heap.size 58 i0 _ 3 24 Tryd.underlying23 hi hz0 hz1 hz2 rfl (by decide) (.slice wa ws.length wc) ws.length (ws.flatMap evC) rfl (hst6 _ _ _).wo ⟨u3.heap.size, 0, none⟩ 1 1 (evC ⟨x, 2, ((m : Int) + 1)⟩) rfl rfl (by first | exact World.news_of_block (cs := #[.int .i64 (x : Int), .int .i64 2, .int .i64 ((m : Int) + 1)]) (t := 58) (fr := (0, 0)) (by first | exact (heap_alloc_new ((u3.setCell ⟨eb, 1, none⟩ (.int .i64 2)).setCell ⟨eb, 2, none⟩ (.int .i64 ((m : Int) + 1))) _) | simpa [go_sem] using (heap_alloc_new ((u3.setCell ⟨eb, 1, none⟩ (.int .i64 2)).setCell ⟨eb, 2, none⟩ (.int .i64 ((m : Int) + 1))) _))) (evC_one _) (by omega) (by unfold maxLen; omega) (by omega) (by have := st.far.bel.size; have := EB3.far.bel.size; simp; omega) _ rfl ?_)
          intro g8 cap8 w8 hown8 hgrow8 hat8 _
          have HSw := (show Hid _ from (hst6 _ _ _).pushW hpb hown8 hgrow8 (fun b hb => by simp only [Value.ownBlock, Option.some.injEq] at hb; subst hb; simpa using hat8))
          have HE8 := (hE _ _ _).keep hgrow8 (fun q hq => (st.wo.lt q hq).2)
          clear hgrow8 hown8 hat8 hst6 hE
          have e0 := HE8.1
          have e1 := HE8.2.1
          have e2 := HE8.2.2
          clear c0 c1 c2 fr EB3 st
          have hal := fun (o : Array Value) => (HSw.out).step hpb (Far.of_below ((Below.refl w8.heap.size w8).alloc (Nat.le_refl _) (.cells o 58)) (by have := HSw.out.far.bel.size; omega)) (HSw.out.cur.below ((Below.refl _ _).alloc (Nat.le_refl _) (.cells o 58)))
          go_wp2_with (at_builtin; refine wpList_append_lies _ rfl _ _ 23 rfl wb.heap.size 58 i0 _ 3 24 Tryd.underlying23 hi hz0 hz1 hz2 rfl (by decide) (.slice la ls.length lc) ls.length (ls.flatMap evC) rfl (hal _).lo ⟨w8.heap.size, 0, none⟩ 1 1 (evC ⟨x, 2, ((m : Int) + 1)⟩) rfl rfl (by first | exact World.news_of_block (cs := #[.int .i64 (x : Int), .int .i64 2, .int .i64 ((m : Int) + 1)]) (t := 58) (fr := (0, 0)) (by first | exact (heap_alloc_new w8 _) | simpa [go_sem] using (heap_alloc_new w8 _))) (evC_one _) (by omega) (by unfold maxLen; omega) (by omega) (by have := HSw.out.far.bel.size; simp; omega) _ rfl ?_)
          intro g9 cap9 w9 hown9 hgrow9 hat9 _
          have HS9 := (show Hid _ from (hal _).pushL hpb hown9 hgrow9 (fun b hb => by simp only [Value.ownBlock, Option.some.injEq] at hb; subst hb; simpa using hat9))
          clear hgrow9 hown9 hat9 hal HSw e0 e1 e2
          go_wp2_with fail
          go_roundw
          case rel => exact ⟨ls ++ [⟨x, 2, ((m : Int) + 1)⟩], ws ++ [⟨x, 2, (m : Int) + 1⟩], m + 1, k - 1, y2, by congr 1, by congr 1; omega, by simp; omega, by first | omega | (simp; omega), by omega, by omega, HS9.out⟩
          case measure => simp [intOf]; omega
        · have hyI : 0 < y := by omega
          by_cases hy1' : y = 1
          · subst hy1'
            clear hyI
            by_cases hw0 : 0 < ws.length
            · have hwI : (0 : Int) < (ws.length : Int) := by omega
              have hst3 := st.step hpb EB3.far EB3.cur
              go_wp2_with fail
              refine (pick_any _ _ _ _ _ _ _ EB3.cur (by omega)).mono ?_
              rintro r u4 ⟨q, rfl, hq, y3, hy3, D4, g4⟩
              have EB4 := EB3.step hpr0 g4 D4
              have st4 := hst3.step hpb g4 D4
              have hq : q < ws.length := by omega
              obtain ⟨eq, heq⟩ := getEv hq
              obtain ⟨gb, go, rfl, f0, f1', f2'⟩ := (evs_of_owns st4.wo).1 _ _ heq
              have hqI : (q : Int) < (ws.length : Int) := by omega
              have st0 := st
              clear EB3 c0 c1 c2 fr hst3 g4 D4 st
              have c0 := EB4.at_.1
              have c1 := EB4.at_.2.1
              have c2 := EB4.at_.2.2
              have fr := EB4.fr
              have EB3 := EB4
              have hdr : Below u4.heap.size u4 u4.drew := (Below.refl _ _).drew
              have EB3 := EB4.step hpr0 (Far.of_below hdr (by have := EB4.far.bel.size; omega)) (EB4.cur.below hdr)
              have st := st4.step hpb (Far.of_below hdr (by have := EB4.far.bel.size; omega)) (EB4.cur.below hdr)
              by_cases hsame : eq.pr = (x : Int)
              · have hsB : (eq.pr != (x : Int)) = false := by simp [hsame]
                go_wp2_with fail
                go_region
                clear EB4 st4 c0 c1 c2 fr
                obtain ⟨u5, hu5⟩ : ∃ u, u4.drew = u := ⟨_, rfl⟩
                rw [hu5] at EB3 st ⊢
                clear hu5 hdr f0 f1' f2'
                have HSw := (show Hid _ from st)
                have e0 := EB3.at_.1
                have e1 := EB3.at_.2.1
                have e2 := EB3.at_.2.2
                clear EB3 st
                have hal := fun (o : Array Value) => (HSw.out).step hpb (Far.of_below ((Below.refl u5.heap.size u5).alloc (Nat.le_refl _) (.cells o 58)) (by have := HSw.out.far.bel.size; omega)) (HSw.out.cur.below ((Below.refl _ _).alloc (Nat.le_refl _) (.cells o 58)))
                go_wp2_with (at_builtin; refine wpList_append_lies _ rfl _ _ 23 rfl wb.heap.size 58 i0 _ 3 24 Tryd.underlying23 hi hz0 hz1 hz2 rfl (by decide) (.slice la ls.length lc) ls.length (ls.flatMap evC) rfl (hal _).lo ⟨u5.heap.size, 0, none⟩ 1 1 (evC ⟨x, 1, 0⟩) rfl rfl (by first | exact World.news_of_block (cs := #[.int .i64 (x : Int), .int .i64 1, .int .i64 0]) (t := 58) (fr := (0, 0)) (by first | exact (heap_alloc_new u5 _) | simpa [go_sem] using (heap_alloc_new u5 _))) (evC_one _) (by omega) (by unfold maxLen; omega) (by omega) (by have := HSw.out.far.bel.size; simp; omega) _ rfl ?_)
                intro g9 cap9 w9 hown9 hgrow9 hat9 _
                have HS9 := (show Hid _ from (hal _).pushL hpb hown9 hgrow9 (fun b hb => by simp only [Value.ownBlock, Option.some.injEq] at hb; subst hb; simpa using hat9))
                clear hgrow9 hown9 hat9 hal HSw e0 e1 e2
                go_wp2_with fail
                go_roundw
                case rel => exact ⟨ls ++ [⟨x, 1, 0⟩], ws, m, k - 1, y3, by congr 1, by congr 1; omega, by simp; omega, by first | omega | (simp; omega), by omega, by omega, HS9.out⟩
                case measure => simp [intOf]; omega
              · have hsB : (eq.pr != (x : Int)) = true := by simp [hsame]
                go_wp2_with fail
                go_region
                have hgb := st0.wo.lt gb rfl
                have hne : gb ≠ eb := by have := EB3.lo; omega
                obtain ⟨u5, hu5⟩ : ∃ u, u4.drew = u := ⟨_, rfl⟩
                rw [hu5] at EB3 st ⊢
                clear hu5 hdr f0 f1' f2' EB4 st4 c0 c1 c2 fr
                obtain ⟨gb', go', ea, k0, k1, k2⟩ := (evs_of_owns st.wo).1 _ _ heq
                simp only [Option.some.injEq, Addr.mk.injEq, and_true] at ea
                obtain ⟨rfl, rfl⟩ := ea
                have f2s : ∀ v, (u5.setCell ⟨eb, 1, none⟩ v).cell? ⟨gb, go + q * 3 + 2, none⟩ = some (.int .i64 eq.ms) := fun v => (World.cell?_of_block (a := ⟨gb, go + q * 3 + 2, none⟩) (Below.heap_setCell u5 ⟨eb, 1, none⟩ v gb hne)).trans k2
                have hwc := (evs_of_owns st.wo).2
                have c0 := EB3.at_.1
                have c1 := EB3.at_.2.1
                have c2 := EB3.at_.2.2
                have fr := EB3.fr
                have EB6 := (EB3.set1 hpr0 3).set2 hpr0 eq.ms
                have st6 := st0.step hpb EB6.far EB6.cur
                clear k0 k1 k2 EB3 st st0 hsB hsame
                have hws25 : ws.length ≤ 25 := by omega
                have hjc : q ≤ wc := by omega
                have hj1 : q + 1 ≤ ws.length := by omega
                have hj1I : (q : Int) + 1 ≤ (ws.length : Int) := by omega
                have hxcI : (ws.length : Int) ≤ (wc : Int) := by omega
                have hjcI : (q : Int) ≤ (wc : Int) := by omega
                have h0j : (0 : Int) ≤ (q : Int) := by omega
                have h0j1 : (0 : Int) ≤ (q : Int) + 1 := by omega
                have hW1 : IntKind.i64.wrap ((q : Int) + 1) = (q : Int) + 1 := by simp [IntKind.wrap, IntKind.bits, IntKind.signed]; omega
                have hW2 : wrap64 ((q : Int) + 1) = (q : Int) + 1 := by unfold wrap64; omega
                obtain ⟨HTL, HTL2, HN1, HN2, HN3, HN4, HEL⟩ := erase_numsE ws q hq hws25
                have HWK : Hid ((ws.eraseIdx q).length + (k - 1) ≤ n) := wk_le HEL.out hq hwk
                go_wp2_with fail
                obtain ⟨u6, hu6⟩ : ∃ u, ((u5.setCell ⟨eb, 1, none⟩ (.int .i64 3)).setCell ⟨eb, 2, none⟩ (.int .i64 eq.ms)) = u := ⟨_, rfl⟩
                rw [hu6] at EB6 st6 ⊢
                clear hu6 f2s c0 c1 c2 fr
                obtain ⟨x0, hx0⟩ : ∃ x, u6.drew = x := ⟨_, rfl⟩
                have HB0 : Below u6.heap.size u6 x0 := by rw [← hx0]; exact (Below.refl _ _).drew
                refine wp_region_noPanic ?_
                refine wp_region_held_drew (S := fun _ => True) (by kernel_rfl) trivial (fun hHn => ?_)
                clear hHn
                rw [hx0]
                clear hx0
                refine wpAnyH_take (i := 1) (oi := ⟨_, _, _, _, _, _⟩) (v := ?vu1) rfl (by kernel_rfl) (by kernel_rfl) (by kernel_rfl) (fun _ _ _ h => h) (Or.inl ⟨by rfl, ?yu1⟩) trivial ?ru1
                case yu1 => intro w hSw; clear hSw; go_simp; try with_reducible rfl
                try simp only [Act.put, List.setIfInBounds_toArray, List.set_cons_zero, List.set_cons_succ]
                refine wpAnyH_take (i := 2) (oi := ⟨_, _, _, _, _, _⟩) (v := ?vu2) rfl (by kernel_rfl) (by kernel_rfl) (by kernel_rfl) (fun _ _ _ h => h) (Or.inl ⟨by rfl, ?yu2⟩) trivial ?ru2
                case yu2 => intro w hSw; clear hSw; go_simp; try with_reducible rfl
                try simp only [Act.put, List.setIfInBounds_toArray, List.set_cons_zero, List.set_cons_succ]
                refine wpAnyH_take (i := 3) (oi := ⟨_, _, _, _, _, _⟩) (v := ?vu3) rfl (by kernel_rfl) (by kernel_rfl) (by kernel_rfl) (fun _ _ _ h => h) (Or.inl ⟨by rfl, ?yu3⟩) trivial ?ru3
                case yu3 => intro w hSw; clear hSw; go_simp; try with_reducible rfl
                try simp only [Act.put, List.setIfInBounds_toArray, List.set_cons_zero, List.set_cons_succ]
                refine wpAnyH_take (i := 5) (oi := ⟨_, _, _, _, _, _⟩) (v := ?vu5) rfl (by kernel_rfl) (by kernel_rfl) (by kernel_rfl) (fun _ _ _ h => h) (Or.inl ⟨by rfl, ?yu5⟩) trivial ?ru5
                case yu5 => intro w hSw; clear hSw; go_simp; try with_reducible rfl
                try simp only [Act.put, List.setIfInBounds_toArray, List.set_cons_zero, List.set_cons_succ]
                refine wpAnyH_take (i := 6) (oi := ⟨_, _, _, _, _, _⟩) (v := ?vu6) rfl (by kernel_rfl) (by kernel_rfl) (by kernel_rfl) (fun _ _ _ h => h) (Or.inl ⟨by rfl, ?yu6⟩) trivial ?ru6
                case yu6 => intro w hSw; clear hSw; go_simp; try with_reducible rfl
                try simp only [Act.put, List.setIfInBounds_toArray, List.set_cons_zero, List.set_cons_succ]
                refine wpAnyH_take (i := 7) (oi := ⟨_, _, _, _, _, _⟩) (v := ?vu7) rfl (by kernel_rfl) (by kernel_rfl) (by kernel_rfl) (fun _ _ _ h => h) (Or.inl ⟨by rfl, ?yu7⟩) trivial ?ru7
                case yu7 => intro w hSw; clear hSw; go_simp; try with_reducible rfl
                try simp only [Act.put, List.setIfInBounds_toArray, List.set_cons_zero, List.set_cons_succ]
                refine wpAnyH_take (i := 8) (oi := ⟨_, _, _, _, _, _⟩) (v := ?vu8) rfl (by kernel_rfl) (by kernel_rfl) (by kernel_rfl) (fun _ _ _ h => h) (Or.inl ⟨by rfl, ?yu8⟩) trivial ?ru8
                case yu8 => intro w hSw; clear hSw; go_simp; rw [pdE_eq]
                try simp only [Act.put, List.setIfInBounds_toArray, List.set_cons_zero, List.set_cons_succ]
                refine wpAnyH_ready (rs := [0]) (by kernel_rfl) (by simp) ?_
                refine AllReadyH.cons (o := ⟨_, _, _, _, _, _⟩) rfl (fun KK hK => ?_) AllReadyH.nil
                go_simp
                obtain ⟨x1, hx1⟩ : ∃ u, x0.alloc (.cells #[] 58) = u := ⟨_, rfl⟩
                have HEm : x1.heap[x0.heap.size]? = some (.cells #[] 58 (0, 0)) := by rw [← hx1]; exact heap_alloc_new _ _
                have BE : Below x0.heap.size x0 x1 := by rw [← hx1]; exact (Below.refl _ _).alloc (Nat.le_refl _) _
                have HB1 : Below u6.heap.size u6 x1 := HB0.trans (BE.mono HB0.size)
                have lx : u6.heap.size ≤ x0.heap.size := HB0.size
                go_simp
                refine hK.out _ _ trivial (fun hHn => ?_)
                clear hK KK hHn
                try simp only [Act.put, List.setIfInBounds_toArray, List.set_cons_zero, List.set_cons_succ]
                clear hx1 BE HB0
                have hE6 := evs_of_owns st6.wo
                refine wpAnyH_ready (rs := [4]) (by kernel_rfl) (by simp) ?_
                refine AllReadyH.cons (o := ⟨_, _, _, _, _, _⟩) rfl (fun KK hK => ?_) AllReadyH.nil
                have hT1 : Evs x1 (some ⟨gb, go, none⟩) (ws.take q) := evs_take (hE6.1.below HB1) q
                refine step_appZ _ (by rfl) _ _ 23 (by rfl) u6.heap.size 58 i0 _ 3 24 Tryd.underlying23 hi hz0 hz1 hz2 rfl (by decide) (.slice (some ⟨x0.heap.size, 0, none⟩) 0 0) 0 [] (by rfl) (owns_emptyE HEm lx) (.slice (some ⟨gb, go, none⟩) q wc) q ((ws.take q).flatMap evC) (by rfl) (srcE HTL.out hT1) HN1.out HN2.out HB1.size ?_
                intro v1 x2 HV hgrow1 hat1
                simp only [Nat.zero_add, List.nil_append] at HV
                have HB2 := HB1.grown hgrow1 HB1.size (fun q hq => own_leE lx hq)
                obtain ⟨a1, cc1, rfl⟩ := ownsZ_form HV
                refine hK.out _ _ trivial (fun hHn => ?_)
                clear hK KK hHn
                try simp only [Act.put, List.setIfInBounds_toArray, List.set_cons_zero, List.set_cons_succ]
                clear hgrow1 hat1 HEm hT1 HB1
                refine wpAnyH_ready (rs := [9]) (by kernel_rfl) (by simp) ?_
                refine AllReadyH.cons (o := ⟨_, _, _, _, _, _⟩) rfl (fun KK hK => ?_) AllReadyH.nil
                have hT2 : Evs x2 (pdE gb go wc q) (ws.drop (q + 1)) := evs_pd (hE6.1.below HB2) hwc hq
                refine step_appZ _ (by rfl) _ _ 23 (by rfl) u6.heap.size 58 i0 _ 3 24 Tryd.underlying23 hi hz0 hz1 hz2 rfl (by decide) (.slice a1 q cc1) q ((ws.take q).flatMap evC) (by rfl) HV (.slice (pdE gb go wc q) (ws.length - (q + 1)) (wc - (q + 1))) (ws.length - (q + 1)) ((ws.drop (q + 1)).flatMap evC) (by first | rfl | simp) (srcE HTL2.out hT2) HN3.out HN4.out HB2.size ?_
                intro v2 x3 HV2 hgrow2 hat2
                have HB3 := HB2.grown hgrow2 HB2.size (fun q hq => (HV.lt q hq).1)
                have HV3 := erase_ownE HEL.out HV2
                obtain ⟨a3, cc3, rfl⟩ := ownsZ_form HV2
                refine hK.out _ _ trivial (fun hHn => ?_)
                clear hK KK hHn
                try simp only [Act.put, List.setIfInBounds_toArray, List.set_cons_zero, List.set_cons_succ]
                clear hgrow2 hat2 HV HV2 hT2 HB2
                refine wpAnyH_take (i := 10) (oi := ⟨_, _, _, _, _, _⟩) (v := ?vu10) rfl (by kernel_rfl) (by kernel_rfl) (by kernel_rfl) (fun _ _ _ h => h) (Or.inl ⟨by rfl, ?yu10⟩) trivial ?ru10
                case yu10 => intro w hSw; clear hSw; go_simp; try with_reducible rfl
                try simp only [Act.put, List.setIfInBounds_toArray, List.set_cons_zero, List.set_cons_succ]
                refine wpAnyH_done (by kernel_rfl) (NoPanic.normal ?_) _
                have st9 := st6.freshW hpb HB3 HV3
                have EA := EB6.at_.below HB3
                have HSw := (show Hid _ from st9)
                clear st9 st6 EB6 HV3 HB3 hE6 HTL HTL2 HN1 HN2 HN3 HN4
                have e0 := EA.1
                have e1 := EA.2.1
                have e2 := EA.2.2
                clear EA
                have hal := fun (o : Array Value) => (HSw.out).step hpb (Far.of_below ((Below.refl x3.heap.size x3).alloc (Nat.le_refl _) (.cells o 58)) (by have := HSw.out.far.bel.size; omega)) (HSw.out.cur.below ((Below.refl _ _).alloc (Nat.le_refl _) (.cells o 58)))
                go_wp2_with (at_builtin; refine wpList_append_lies _ rfl _ _ 23 rfl wb.heap.size 58 i0 _ 3 24 Tryd.underlying23 hi hz0 hz1 hz2 rfl (by decide) (.slice la ls.length lc) ls.length (ls.flatMap evC) rfl (hal _).lo ⟨x3.heap.size, 0, none⟩ 1 1 (evC ⟨x, 3, eq.ms⟩) rfl rfl (by first | exact World.news_of_block (cs := #[.int .i64 (x : Int), .int .i64 3, .int .i64 eq.ms]) (t := 58) (fr := (0, 0)) (by first | exact (heap_alloc_new x3 _) | simpa [go_sem] using (heap_alloc_new x3 _))) (evC_one _) (by omega) (by unfold maxLen; omega) (by omega) (by have := HSw.out.far.bel.size; simp; omega) _ rfl ?_)
                intro g9 cap9 w9 hown9 hgrow9 hat9 _
                have HS9 := (show Hid _ from (hal _).pushL hpb hown9 hgrow9 (fun b hb => by simp only [Value.ownBlock, Option.some.injEq] at hb; subst hb; simpa using hat9))
                clear hgrow9 hown9 hat9 hal HSw e0 e1 e2
                go_wp2_with fail
                go_roundw
                case rel => exact ⟨ls ++ [⟨x, 3, eq.ms⟩], ws.eraseIdx q, m, k - 1, y3, by congr 1, by congr 1; omega, by simp; omega, HWK.out, by omega, by omega, HS9.out⟩
                case measure => simp [intOf]; omega
            · obtain rfl : ws = [] := List.eq_nil_of_length_eq_zero (by omega)
              clear hw0
              have HSw := (show Hid _ from st.step hpb EB3.far EB3.cur)
              have e0 := EB3.at_.1
              have e1 := EB3.at_.2.1
              have e2 := EB3.at_.2.2
              clear c0 c1 c2 fr EB3 st
              have hal := fun (o : Array Value) => (HSw.out).step hpb (Far.of_below ((Below.refl u3.heap.size u3).alloc (Nat.le_refl _) (.cells o 58)) (by have := HSw.out.far.bel.size; omega)) (HSw.out.cur.below ((Below.refl _ _).alloc (Nat.le_refl _) (.cells o 58)))
              go_wp2_with (at_builtin; refine wpList_append_lies _ rfl _ _ 23 rfl wb.heap.size 58 i0 _ 3 24 Tryd.underlying23 hi hz0 hz1 hz2 rfl (by decide) (.slice la ls.length lc) ls.length (ls.flatMap evC) rfl (hal _).lo ⟨u3.heap.size, 0, none⟩ 1 1 (evC ⟨x, 1, 0⟩) rfl rfl (by first | exact World.news_of_block (cs := #[.int .i64 (x : Int), .int .i64 1, .int .i64 0]) (t := 58) (fr := (0, 0)) (by first | exact (heap_alloc_new u3 _) | simpa [go_sem] using (heap_alloc_new u3 _))) (evC_one _) (by omega) (by unfold maxLen; omega) (by omega) (by have := HSw.out.far.bel.size; simp; omega) _ rfl ?_)
              intro g9 cap9 w9 hown9 hgrow9 hat9 _
              have HS9 := (show Hid _ from (hal _).pushL hpb hown9 hgrow9 (fun b hb => by simp only [Value.ownBlock, Option.some.injEq] at hb; subst hb; simpa using hat9))
              clear hgrow9 hown9 hat9 hal HSw e0 e1 e2
              go_wp2_with fail
              go_roundw
              case rel => exact ⟨ls ++ [⟨x, 1, 0⟩], [], m, k - 1, y2, by congr 1, by congr 1; omega, by simp; omega, by first | omega | (simp; omega), by omega, by omega, HS9.out⟩
              case measure => simp [intOf]; omega
          · obtain rfl : y = 2 := by omega
            clear hyI
            have HSw := (show Hid _ from st.step hpb EB3.far EB3.cur)
            have e0 := EB3.at_.1
            have e1 := EB3.at_.2.1
            have e2 := EB3.at_.2.2
            clear c0 c1 c2 fr EB3 st
            have hal := fun (o : Array Value) => (HSw.out).step hpb (Far.of_below ((Below.refl u3.heap.size u3).alloc (Nat.le_refl _) (.cells o 58)) (by have := HSw.out.far.bel.size; omega)) (HSw.out.cur.below ((Below.refl _ _).alloc (Nat.le_refl _) (.cells o 58)))
            go_wp2_with (at_builtin; refine wpList_append_lies _ rfl _ _ 23 rfl wb.heap.size 58 i0 _ 3 24 Tryd.underlying23 hi hz0 hz1 hz2 rfl (by decide) (.slice la ls.length lc) ls.length (ls.flatMap evC) rfl (hal _).lo ⟨u3.heap.size, 0, none⟩ 1 1 (evC ⟨x, 1, 0⟩) rfl rfl (by first | exact World.news_of_block (cs := #[.int .i64 (x : Int), .int .i64 1, .int .i64 0]) (t := 58) (fr := (0, 0)) (by first | exact (heap_alloc_new u3 _) | simpa [go_sem] using (heap_alloc_new u3 _))) (evC_one _) (by omega) (by unfold maxLen; omega) (by omega) (by have := HSw.out.far.bel.size; simp; omega) _ rfl ?_)
            intro g9 cap9 w9 hown9 hgrow9 hat9 _
            have HS9 := (show Hid _ from (hal _).pushL hpb hown9 hgrow9 (fun b hb => by simp only [Value.ownBlock, Option.some.injEq] at hb; subst hb; simpa using hat9))
            clear hgrow9 hown9 hat9 hal HSw e0 e1 e2
            go_wp2_with fail
            go_roundw
            case rel => exact ⟨ls ++ [⟨x, 1, 0⟩], ws, m, k - 1, y2, by congr 1, by congr 1; omega, by simp; omega, by first | omega | (simp; omega), by omega, by omega, HS9.out⟩
            case measure => simp [intOf]; omega
      · obtain rfl : k = 0 := by omega
        obtain ⟨la, lc, rfl⟩ := ownsZ_form st.lo
        have hev := evs_nb st.lo hpb
        have C9 := st.cur
        have f9 := fb.trans st.far
        have hl25 : ls.length ≤ 25 := by omega
        by_cases hl0 : 0 < ls.length
        · have hlI : (0 : Int) < (ls.length : Int) := by omega
          go_wp2_with fail
          refine (one_any _ _ _ _ _ _ _ C9 (by omega)).mono ?_
          rintro r v1 ⟨b1, rfl, yy, hyy, E1, h1⟩
          have st1 := st.step hpb h1 E1
          have hev1 := evs_nb st1.lo hpb
          have HEV : Hid ((Evs v1 la ls ∧ ∀ b, InI la ls.length b → b ≠ p) ∧ ls.length ≤ lc) := hev1
          have fx := f9.trans h1
          clear hev hev1 C9 f9 h1
          cases b1
          · go_wp2
            go_ret2
            exact ⟨_, la, lc, ls, rfl, HEV.out.1, HEV.out.2, hl25, ⟨yy, by omega, E1⟩, fx⟩
          · go_wp2_with fail
            refine (pick_any _ _ _ _ _ _ _ E1 (by omega)).mono ?_
            rintro r v2 ⟨j, rfl, hj, y4, hy4, F2, h2⟩
            have st2 := st1.step hpb h2 F2
            go_wp2_with fail
            refine (pick_any _ _ _ _ _ _ _ F2 (by omega)).mono ?_
            rintro r v3 ⟨d0, rfl, hd0, y5, hy5, F3, h3⟩
            have st3 := st2.step hpb h3 F3
            go_wp2_with fail
            refine (pick_any _ _ _ _ _ _ _ F3 (by omega)).mono ?_
            rintro r v4 ⟨d1, rfl, hd1, y6, hy6, F4, h4⟩
            have st4 := st3.step hpb h4 F4
            go_wp2_with fail
            refine (pick_any _ _ _ _ _ _ _ F4 (by omega)).mono ?_
            rintro r v5 ⟨d2, rfl, hd2, y7, hy7, F5, h5⟩
            have st5 := st4.step hpb h5 F5
            have hjl : j < ls.length := by omega
            have hjI : (j : Int) < (ls.length : Int) := by omega
            obtain ⟨g, rfl, hg, ⟨w0, hw0⟩, ⟨w1x, hw1⟩, ⟨w2x, hw2⟩, hfz, hlc, hEv⟩ := evs_put ⟨(d0 : Int), (d1 : Int), (d2 : Int)⟩ st5.lo hjl
            have hgw : w.heap.size ≤ g := Nat.le_trans fb.bel.size hg
            have HC9 : Hid (Cur (((v5.setCell ⟨g, j * 3, none⟩ (.int .i64 (d0 : Int))).setCell ⟨g, j * 3 + 1, none⟩ (.int .i64 (d1 : Int))).setCell ⟨g, j * 3 + 2, none⟩ (.int .i64 (d2 : Int))) p a bs c y7) := cur_set (cur_set (cur_set F5 (by omega)) (by omega)) (by omega)
            have HF9 : Hid (Far p w (((v5.setCell ⟨g, j * 3, none⟩ (.int .i64 (d0 : Int))).setCell ⟨g, j * 3 + 1, none⟩ (.int .i64 (d1 : Int))).setCell ⟨g, j * 3 + 2, none⟩ (.int .i64 (d2 : Int)))) := far_set (far_set (far_set ((((fx.trans h2).trans h3).trans h4).trans h5) hp hgw) hp hgw) hp hgw
            have HEv : Hid (Evs (((v5.setCell ⟨g, j * 3, none⟩ (.int .i64 (d0 : Int))).setCell ⟨g, j * 3 + 1, none⟩ (.int .i64 (d1 : Int))).setCell ⟨g, j * 3 + 2, none⟩ (.int .i64 (d2 : Int))) (some ⟨g, 0, none⟩) (ls.set j ⟨(d0 : Int), (d1 : Int), (d2 : Int)⟩)) := hEv
            have HGP : Hid (p < g) := by show _ < _; omega
            have HZ9 : Hid (y7 ≤ z + 400) := by show _ ≤ _; omega
            clear hEv st st1 st2 st3 st4 st5 HEV fx h2 h3 h4 h5 E1 F2 F3 F4 F5
            go_wp2
            go_ret2
            exact ⟨_, some ⟨g, 0, none⟩, lc, ls.set j ⟨(d0 : Int), (d1 : Int), (d2 : Int)⟩, by rw [List.length_set]; rfl, ⟨HEv.out, fun b hb => by obtain ⟨-, o, s, e⟩ := hb; simp only [Option.some.injEq, Addr.mk.injEq] at e; have := HGP.out; omega⟩, by rw [List.length_set]; exact hlc, by rw [List.length_set]; exact hl25, ⟨y7, HZ9.out, HC9.out⟩, HF9.out⟩
        · have hlI : ¬ (0 : Int) < (ls.length : Int) := by omega
          have HEV : Hid ((Evs wr la ls ∧ ∀ b, InI la ls.length b → b ≠ p) ∧ ls.length ≤ lc) := hev
          clear hev hl0
          obtain ⟨nl, hnl⟩ : ∃ x, ls.length = x := ⟨_, rfl⟩
          have hnl0 : nl = 0 := by omega
          subst hnl0
          rw [hnl]
          go_wp2
          go_ret2
          exact ⟨_, la, lc, ls, by rw [hnl]; rfl, HEV.out.1, HEV.out.2, hl25, ⟨zz, by omega, C9⟩, f9⟩

end Go.Proofs.YtiabgomeogcpnaaDoor
