/-
  A drawn log, the walk of spec.(*l1Cur).entries.
-/
import Derived.Test.YtgmcllfdhkjafaaCurE
namespace Go.Proofs.Ytgmcllfdhkjafaa
open Go.RowKit

theorem en_store {w wr : World} {p : Nat} {a : Option Addr} {bs : List UInt8} {c z g cap x : Nat} {zs : List Int} {y : Int} (h : EnSt w wr p a bs c (.slice (some ⟨g, 0, none⟩) zs.length cap) zs z) (hp : p < w.heap.size) :
    EnSt w (wr.setCell ⟨g, x, none⟩ (.int .i64 y)) p a bs c (.slice (some ⟨g, 0, none⟩) zs.length cap) (zs.set x y) z := by
  obtain ⟨h1, h2⟩ := h.own.stored x (.int .i64 y)
  have hs := h.far.bel.size
  have hg := (h.own.lt g rfl).1
  have hB : Below w.heap.size wr (wr.setCell ⟨g, x, none⟩ (.int .i64 y)) := (Below.refl _ _).setCell hg _
  obtain ⟨z', k1, k2⟩ := h.cur
  refine ⟨?_, ⟨z', k1, ?_⟩, ?_⟩
  · rw [List.length_set]
    have e : zCells (zs.set x y) = (zCells zs).set x (.int .i64 y) := by simp [zCells, List.map_set]
    rw [e]; exact h1
  · have hb := hB.block p hp
    obtain ⟨s, hs2⟩ := k2.c2
    exact ⟨(World.cell?_of_block (a := ⟨p, 0, none⟩) hb).trans k2.c0, (World.cell?_of_block (a := ⟨p, 1, none⟩) hb).trans k2.c1, ⟨s, (World.cell?_of_block (a := ⟨p, 2, none⟩) hb).trans hs2⟩, fun i => (World.frozen?_of_block (a := ⟨p, i, none⟩) hb).trans (k2.f i), k2.by_.of_block (fun b hi => hB.block b (by have := k2.lo b hi; omega)), k2.lo, k2.sm⟩
  · exact ⟨h.far.bel.trans (hB.mono (by omega)), fun b hb hne => (hB.block b hb).trans (h.far.blk b hb hne)⟩

theorem ints_lit (w : World) (zs : List Int) (t : TypeId) : Ints (w.alloc (.cells (zCells zs).toArray t)) (some ⟨w.heap.size, 0, none⟩) zs := fun i z hi => by
  refine ⟨w.heap.size, 0, rfl, ?_⟩
  rw [cell_of_row _ _ _ _ t (0, 0) (heap_alloc_new w _), Nat.zero_add]
  simpa using zCells_get hi

set_option maxRecDepth 100000 in
set_option maxHeartbeats 4000000 in
theorem entries_any (p : Nat) (a : Option Addr) (bs : List UInt8) (c z : Nat) (w : World) (h : Cur w p a bs c z) (hz : z ≤ 800000000) :
    Calls Try.prog 41 #[.pointer (some ⟨p, 0, none⟩)] w fun e w' => ∃ v zs, e = .returned v ∧ zs.length ≤ 31 ∧ EnSt w w' p a bs c v zs (z + 200) := by
  have hp : p < w.heap.size := lt_of_cell h.c0
  obtain ⟨i0, hi, hz0, hz1, hz2⟩ := info_parts Try.infoInt
  have st0 : EnSt w w p a bs c (.slice none 0 0) [] z := ⟨World.ownsRow_nil _ _ _ _, ⟨z, Nat.le_refl _, h⟩, Far.refl _ _⟩
  go_enter Try.func41, Try.ntmps41
  go_wp2_with fail
  refine (pick_any _ _ _ _ _ _ _ h (by omega)).mono ?_
  rintro r w1 ⟨e0, rfl, he0, k1⟩
  have st1 := en_draw st0 (Nat.le_refl _) hp k1
  clear st0 k1 h
  obtain ⟨z1, hz1', C1⟩ := st1.cur
  go_wp2_with fail
  refine (pick_any _ _ _ _ _ _ _ C1 (by omega)).mono ?_
  rintro r w2 ⟨n0, rfl, hn0, k2⟩
  have st2 := en_draw st1 hz1' hp k2
  clear st1 k2 C1
  obtain ⟨z2, hz2', C2⟩ := st2.cur
  go_wp2_with fail
  refine (one_any _ _ _ _ _ _ _ C2 (by omega)).mono ?_
  rintro r w3 ⟨b3, rfl, k3⟩
  have st3 := en_draw st2 hz2' hp k3
  clear st2 k3 C2
  obtain ⟨z3, hz3', C3⟩ := st3.cur
  cases b3 with
  | true =>
    go_wp2_with fail
    refine (pick_any _ _ _ _ _ _ _ C3 (by omega)).mono ?_
    rintro r w4 ⟨n4, rfl, hn4, k4⟩
    have st4 := en_draw st3 hz3' hp k4
    clear st3 k4 C3
    go_wp2_with fail
    go_loopw [3, 4, 5] (fun v ev nv wr => ∃ (zs : List Int) (e : Int) (n zz : Nat), nv = .int .i64 (n : Int) ∧ ev = .int .i64 e ∧ zs.length + n ≤ 31 ∧ zz + 2 * n ≤ z + 72 ∧ EnSt w wr p a bs c v zs zz) (fun _ _ nv _ => (intOf nv).toNat)
    case atStart => exact ⟨[], (e0 : Int), 30 + n4, _, by go_num, rfl, by simp; omega, by omega, st4⟩
    case round =>
      clear st4
      obtain ⟨zs, e, n, zz, rfl, rfl, hzn, hzz, st⟩ := hrel
      obtain ⟨av, cv, rfl⟩ := ownsZ_form st.own
      have hsz := st.far.bel.size
      by_cases hpos : 0 < n
      · have hpI : (0 : Int) < (n : Int) := by omega
        have sta : ∀ o, EnSt w (wr.alloc o) p a bs c (.slice av zs.length cv) zs zz := fun o => en_below st hp ((Below.refl _ _).alloc (Nat.le_refl _) o)
        go_wp2_with (at_builtin; refine wpList_append_lies _ rfl _ _ 23 rfl w.heap.size 3 i0 _ 1 8 Try.underlying23 hi hz0 hz1 hz2 rfl (by decide) (.slice av zs.length cv) zs.length (zCells zs) rfl (sta _).own ⟨wr.heap.size, 0, none⟩ 1 1 [.int .i64 e] rfl rfl ?c1 ?c2 (by omega) ?c3 ?c4 ?c5 (wr.heap.size + 1) ?c6 ?_)
        case c1 => exact World.news_of_block (cs := #[.int .i64 e]) (t := 3) (fr := (0, 0)) (heap_alloc_new wr _)
        case c2 => simp [Value.oneCell']
        case c3 => unfold maxLen; omega
        case c4 => omega
        case c5 => simp; omega
        case c6 => simp
        intro g4 cap4 w5 hown4 hgrow hat4 _
        have st5 := en_grown (y := e) (sta _) hp hgrow hown4
        have hs5 := st5.far.bel.size
        clear hown4 hgrow hat4 sta st
        have st6 : ∀ o, EnSt w (w5.alloc o) p a bs c (.slice (some ⟨g4, 0, none⟩) (zs.length + 1) cap4) (zs ++ [e]) zz := fun o => en_below st5 hp ((Below.refl _ _).alloc (Nat.le_refl _) o)
        have lit : ∀ t, Ints (w5.alloc (.cells #[.int .i64 0, .int .i64 0, .int .i64 0, .int .i64 1, .int .i64 2] t)) (some ⟨w5.heap.size, 0, none⟩) [0, 0, 0, 1, 2] := fun t => ints_lit w5 [0, 0, 0, 1, 2] t
        go_wp2_with fail
        obtain ⟨z6, hz6, C6⟩ := (st6 _).cur
        refine (among_any _ _ _ _ _ _ _ [0, 0, 0, 1, 2] _ C6 (by omega) (lit _) (by omega) (by decide) (by decide)).mono ?_
        rintro r w7 ⟨y, rfl, -, k7⟩
        have st7 := en_draw (st6 _) hz6 hp k7
        have HS7 : Hid (EnSt w w7 p a bs c (.slice (some ⟨g4, 0, none⟩) (zs.length + 1) cap4) (zs ++ [e]) (zz + 2)) := st7
        clear st7 k7 C6 st6 st5 lit
        go_wp2_with fail
        go_roundw
        case rel => exact ⟨zs ++ [e], _, n - 1, zz + 2, by go_num, rfl, by rw [List.length_append, List.length_singleton]; omega, by omega, HS7.out⟩
        case measure => simp [intOf]; omega
      · obtain rfl : n = 0 := by omega
        by_cases h0 : 0 < zs.length
        · have h0I : (0 : Int) < (zs.length : Int) := by omega
          obtain ⟨g, cap, f, hv, hg, hnc, -, -⟩ := row_of_ownsZ st.own h0
          simp only [Value.slice.injEq] at hv
          obtain ⟨rfl, -, rfl⟩ := hv
          obtain ⟨z6, hz6, C6⟩ := st.cur
          go_wp2_with fail
          refine (one_any _ _ _ _ _ _ _ C6 (by omega)).mono ?_
          rintro r w7 ⟨b7, rfl, k7⟩
          have st7 := en_draw st hz6 hp k7
          clear k7 C6 st
          cases b7 with
          | false =>
            have HS7 : Hid (EnSt w w7 p a bs c (.slice (some ⟨g, 0, none⟩) zs.length cv) zs (zz + 2)) := st7
            clear st7
            go_wp2
            go_ret
            exact ⟨_, zs, rfl, by omega, HS7.out.own, (by obtain ⟨z', q1, q2⟩ := HS7.out.cur; exact ⟨z', by omega, q2⟩), HS7.out.far⟩
          | true =>
            obtain ⟨z7, hz7, C7⟩ := st7.cur
            go_wp2_with fail
            refine (pick_any _ _ _ _ _ _ _ C7 (by omega)).mono ?_
            rintro r w8 ⟨x, rfl, hx, k8⟩
            have st8 := en_draw st7 hz7 hp k8
            have hxl : x < zs.length := by omega
            have hxI : (x : Int) < (zs.length : Int) := by omega
            clear k8 C7 st7
            have hs8 := st8.far.bel.size
            have st9 : ∀ o, EnSt w (w8.alloc o) p a bs c (.slice (some ⟨g, 0, none⟩) zs.length cv) zs (zz + 2 + 2) := fun o => en_below st8 hp ((Below.refl _ _).alloc (Nat.le_refl _) o)
            have lit : ∀ t, Ints (w8.alloc (.cells #[.int .i64 (-1), .int .i64 0, .int .i64 100, .int .i64 101] t)) (some ⟨w8.heap.size, 0, none⟩) [-1, 0, 100, 101] := fun t => ints_lit w8 [-1, 0, 100, 101] t
            go_wp2_with fail
            obtain ⟨z9, hz9, C9⟩ := (st9 _).cur
            refine (among_any _ _ _ _ _ _ _ [-1, 0, 100, 101] _ C9 (by omega) (lit _) (by omega) (by decide) (by decide)).mono ?_
            rintro r w10 ⟨y, rfl, -, k10⟩
            have st10 := en_draw (st9 _) hz9 hp k10
            have hcell : w10.cell? ⟨g, x, none⟩ = some (.int .i64 zs[x]) := by
              rw [st10.own.cellAt x (by omega)]; simp [zCells, hxl]
            have hfro := st10.own.frozenAt
            have HS : Hid (EnSt w (w10.setCell ⟨g, x, none⟩ (.int .i64 y)) p a bs c (.slice (some ⟨g, 0, none⟩) zs.length cv) (zs.set x y) (zz + 2 + 2 + 2)) := en_store st10 hp
            clear st10 k10 C9 st9 st8 lit
            go_wp2
            go_ret
            exact ⟨_, zs.set x y, rfl, by rw [List.length_set]; omega, by rw [List.length_set]; have := HS.out.own; rw [List.length_set] at this; exact this, (by obtain ⟨z', q1, q2⟩ := HS.out.cur; exact ⟨z', by omega, q2⟩), HS.out.far⟩
        · obtain rfl : zs = [] := List.eq_nil_of_length_eq_zero (by omega)
          have HS : Hid (EnSt w wr p a bs c (.slice av 0 cv) [] zz) := st
          clear st
          go_wp2
          go_ret
          exact ⟨_, [], rfl, by simp, HS.out.own, (by obtain ⟨z', q1, q2⟩ := HS.out.cur; exact ⟨z', by omega, q2⟩), HS.out.far⟩
  | false =>
    have st4 := st3
    clear st3 C3
    go_wp2_with fail
    go_loopw [3, 4, 5] (fun v ev nv wr => ∃ (zs : List Int) (e : Int) (n zz : Nat), nv = .int .i64 (n : Int) ∧ ev = .int .i64 e ∧ zs.length + n ≤ 31 ∧ zz + 2 * n ≤ z + 72 ∧ EnSt w wr p a bs c v zs zz) (fun _ _ nv _ => (intOf nv).toNat)
    case atStart => exact ⟨[], (e0 : Int), n0, _, rfl, rfl, by simp; omega, by omega, st4⟩
    case round =>
      clear st4
      obtain ⟨zs, e, n, zz, rfl, rfl, hzn, hzz, st⟩ := hrel
      obtain ⟨av, cv, rfl⟩ := ownsZ_form st.own
      have hsz := st.far.bel.size
      by_cases hpos : 0 < n
      · have hpI : (0 : Int) < (n : Int) := by omega
        have sta : ∀ o, EnSt w (wr.alloc o) p a bs c (.slice av zs.length cv) zs zz := fun o => en_below st hp ((Below.refl _ _).alloc (Nat.le_refl _) o)
        go_wp2_with (at_builtin; refine wpList_append_lies _ rfl _ _ 23 rfl w.heap.size 3 i0 _ 1 8 Try.underlying23 hi hz0 hz1 hz2 rfl (by decide) (.slice av zs.length cv) zs.length (zCells zs) rfl (sta _).own ⟨wr.heap.size, 0, none⟩ 1 1 [.int .i64 e] rfl rfl ?c1 ?c2 (by omega) ?c3 ?c4 ?c5 (wr.heap.size + 1) ?c6 ?_)
        case c1 => exact World.news_of_block (cs := #[.int .i64 e]) (t := 3) (fr := (0, 0)) (heap_alloc_new wr _)
        case c2 => simp [Value.oneCell']
        case c3 => unfold maxLen; omega
        case c4 => omega
        case c5 => simp; omega
        case c6 => simp
        intro g4 cap4 w5 hown4 hgrow hat4 _
        have st5 := en_grown (y := e) (sta _) hp hgrow hown4
        have hs5 := st5.far.bel.size
        clear hown4 hgrow hat4 sta st
        have st6 : ∀ o, EnSt w (w5.alloc o) p a bs c (.slice (some ⟨g4, 0, none⟩) (zs.length + 1) cap4) (zs ++ [e]) zz := fun o => en_below st5 hp ((Below.refl _ _).alloc (Nat.le_refl _) o)
        have lit : ∀ t, Ints (w5.alloc (.cells #[.int .i64 0, .int .i64 0, .int .i64 0, .int .i64 1, .int .i64 2] t)) (some ⟨w5.heap.size, 0, none⟩) [0, 0, 0, 1, 2] := fun t => ints_lit w5 [0, 0, 0, 1, 2] t
        go_wp2_with fail
        obtain ⟨z6, hz6, C6⟩ := (st6 _).cur
        refine (among_any _ _ _ _ _ _ _ [0, 0, 0, 1, 2] _ C6 (by omega) (lit _) (by omega) (by decide) (by decide)).mono ?_
        rintro r w7 ⟨y, rfl, -, k7⟩
        have st7 := en_draw (st6 _) hz6 hp k7
        have HS7 : Hid (EnSt w w7 p a bs c (.slice (some ⟨g4, 0, none⟩) (zs.length + 1) cap4) (zs ++ [e]) (zz + 2)) := st7
        clear st7 k7 C6 st6 st5 lit
        go_wp2_with fail
        go_roundw
        case rel => exact ⟨zs ++ [e], _, n - 1, zz + 2, by go_num, rfl, by rw [List.length_append, List.length_singleton]; omega, by omega, HS7.out⟩
        case measure => simp [intOf]; omega
      · obtain rfl : n = 0 := by omega
        by_cases h0 : 0 < zs.length
        · have h0I : (0 : Int) < (zs.length : Int) := by omega
          obtain ⟨g, cap, f, hv, hg, hnc, -, -⟩ := row_of_ownsZ st.own h0
          simp only [Value.slice.injEq] at hv
          obtain ⟨rfl, -, rfl⟩ := hv
          obtain ⟨z6, hz6, C6⟩ := st.cur
          go_wp2_with fail
          refine (one_any _ _ _ _ _ _ _ C6 (by omega)).mono ?_
          rintro r w7 ⟨b7, rfl, k7⟩
          have st7 := en_draw st hz6 hp k7
          clear k7 C6 st
          cases b7 with
          | false =>
            have HS7 : Hid (EnSt w w7 p a bs c (.slice (some ⟨g, 0, none⟩) zs.length cv) zs (zz + 2)) := st7
            clear st7
            go_wp2
            go_ret
            exact ⟨_, zs, rfl, by omega, HS7.out.own, (by obtain ⟨z', q1, q2⟩ := HS7.out.cur; exact ⟨z', by omega, q2⟩), HS7.out.far⟩
          | true =>
            obtain ⟨z7, hz7, C7⟩ := st7.cur
            go_wp2_with fail
            refine (pick_any _ _ _ _ _ _ _ C7 (by omega)).mono ?_
            rintro r w8 ⟨x, rfl, hx, k8⟩
            have st8 := en_draw st7 hz7 hp k8
            have hxl : x < zs.length := by omega
            have hxI : (x : Int) < (zs.length : Int) := by omega
            clear k8 C7 st7
            have hs8 := st8.far.bel.size
            have st9 : ∀ o, EnSt w (w8.alloc o) p a bs c (.slice (some ⟨g, 0, none⟩) zs.length cv) zs (zz + 2 + 2) := fun o => en_below st8 hp ((Below.refl _ _).alloc (Nat.le_refl _) o)
            have lit : ∀ t, Ints (w8.alloc (.cells #[.int .i64 (-1), .int .i64 0, .int .i64 100, .int .i64 101] t)) (some ⟨w8.heap.size, 0, none⟩) [-1, 0, 100, 101] := fun t => ints_lit w8 [-1, 0, 100, 101] t
            go_wp2_with fail
            obtain ⟨z9, hz9, C9⟩ := (st9 _).cur
            refine (among_any _ _ _ _ _ _ _ [-1, 0, 100, 101] _ C9 (by omega) (lit _) (by omega) (by decide) (by decide)).mono ?_
            rintro r w10 ⟨y, rfl, -, k10⟩
            have st10 := en_draw (st9 _) hz9 hp k10
            have hcell : w10.cell? ⟨g, x, none⟩ = some (.int .i64 zs[x]) := by
              rw [st10.own.cellAt x (by omega)]; simp [zCells, hxl]
            have hfro := st10.own.frozenAt
            have HS : Hid (EnSt w (w10.setCell ⟨g, x, none⟩ (.int .i64 y)) p a bs c (.slice (some ⟨g, 0, none⟩) zs.length cv) (zs.set x y) (zz + 2 + 2 + 2)) := en_store st10 hp
            clear st10 k10 C9 st9 st8 lit
            go_wp2
            go_ret
            exact ⟨_, zs.set x y, rfl, by rw [List.length_set]; omega, by rw [List.length_set]; have := HS.out.own; rw [List.length_set] at this; exact this, (by obtain ⟨z', q1, q2⟩ := HS.out.cur; exact ⟨z', by omega, q2⟩), HS.out.far⟩
        · obtain rfl : zs = [] := List.eq_nil_of_length_eq_zero (by omega)
          have HS : Hid (EnSt w wr p a bs c (.slice av 0 cv) [] zz) := st
          clear st
          go_wp2
          go_ret
          exact ⟨_, [], rfl, by simp, HS.out.own, (by obtain ⟨z', q1, q2⟩ := HS.out.cur; exact ⟨z', by omega, q2⟩), HS.out.far⟩

end Go.Proofs.Ytgmcllfdhkjafaa
