/-
  Drawn racks: spec.(*l1Cur).racks, spec.DrawRacksOf.
-/
import Derived.Test.YtilongjiacphmaaDoorFrD
namespace Go.Proofs.YtilongjiacphmaaDoor
open Go.RowKit

set_option maxRecDepth 100000 in
set_option maxHeartbeats 4000000 in
theorem racks_any (p : Nat) (a : Option Addr) (bs : List UInt8) (c z : Nat) (w : World) (h : Cur w p a bs c z) (hz : z ≤ 800000000) :
    Calls Tryd.prog 12 #[.pointer (some ⟨p, 0, none⟩)] w fun e w' => ∃ v zs, e = .returned v ∧ zs.length ≤ 6 ∧ EnSt w w' p a bs c v zs (z + 40) := by
  have hp : p < w.heap.size := lt_of_cell h.c0
  obtain ⟨i0, hi, hz0, hz1, hz2⟩ := info_parts Tryd.infoInt
  have st0 : EnSt w w p a bs c (.slice none 0 0) [] z := ⟨World.ownsRow_nil _ _ _ _, ⟨z, Nat.le_refl _, h⟩, Far.refl _ _⟩
  go_enter Tryd.func12, Tryd.ntmps12
  go_wp2_with fail
  refine (pick_any _ _ _ _ _ _ _ h (by omega)).mono ?_
  rintro r w1 ⟨x, rfl, hx, k1⟩
  have st1 := en_draw st0 (Nat.le_refl _) hp k1
  clear st0 k1 h
  go_wp2
  go_loopw [3, 4] (fun v nv wr => ∃ (zs : List Int) (n zz : Nat), nv = .int .i64 (n : Int) ∧ zs.length + n ≤ 6 ∧ 1 ≤ zs.length + n ∧ zz + 2 * n ≤ z + 20 ∧ EnSt w wr p a bs c v zs zz) (fun _ nv _ => (intOf nv).toNat)
  case atStart => exact ⟨[], 1 + x, z + 2, by go_num, by simp; omega, by simp, by omega, st1⟩
  case round =>
    clear st1
    obtain ⟨zs, n, zz, rfl, hzn, hzn1, hzz, st⟩ := hrel
    obtain ⟨av, cv, rfl⟩ := ownsZ_form st.own
    obtain ⟨z1, hz1', C1⟩ := st.cur
    by_cases hpos : 0 < n
    · have hpI : (0 : Int) < (n : Int) := by omega
      go_wp2_with fail
      refine (pick_any _ _ _ _ _ _ _ C1 (by omega)).mono ?_
      rintro r w4 ⟨y, rfl, hy, k4⟩
      have st4 := en_draw st hz1' hp k4
      clear st k4 C1
      have hsz := st4.far.bel.size
      have sta : ∀ o, EnSt w (w4.alloc o) p a bs c (.slice av zs.length cv) zs (zz + 2) := fun o => en_below st4 hp ((Below.refl _ _).alloc (Nat.le_refl _) o)
      go_wp2_with (at_builtin; refine wpList_append_lies _ rfl _ _ 23 rfl w.heap.size 3 i0 _ 1 8 Tryd.underlying23 hi hz0 hz1 hz2 rfl (by decide) (.slice av zs.length cv) zs.length (zCells zs) rfl (sta _).own ⟨w4.heap.size, 0, none⟩ 1 1 [.int .i64 (y : Int)] rfl rfl ?c1 ?c2 (by omega) ?c3 ?c4 ?c5 (w4.heap.size + 1) ?c6 ?_)
      try (case c1 => first | exact (fun j u h => h) | exact World.news_of_block (cs := #[.int .i64 (y : Int)]) (t := 3) (fr := (0, 0)) (by first | exact (heap_alloc_new w4 _) | simpa using (heap_alloc_new w4 _)))
      case c2 => simp [Value.oneCell']
      case c3 => unfold maxLen; omega
      case c4 => omega
      case c5 => first | omega | (simp; omega)
      try (case c6 => simp)
      intro g8 cap8 w8 hown8 hgrow8 hat8 _
      have st8 := en_grown (sta _) hp hgrow8 hown8
      have HS8 : Hid (EnSt w w8 p a bs c (.slice (some ⟨g8, 0, none⟩) (zs.length + 1) cap8) (zs ++ [(y : Int)]) (zz + 2)) := st8
      clear st8 hown8 hgrow8 hat8 sta st4
      go_wp2_with fail
      go_roundw
      case rel => exact ⟨zs ++ [(y : Int)], n - 1, zz + 2, by congr 1; omega, by simp; omega, by simp; omega, by omega, HS8.out⟩
      case measure => simp [intOf]; omega
    · obtain rfl : n = 0 := by omega
      have hn0 : ¬ (0 : Int) < ((0 : Nat) : Int) := by omega
      go_wp2_with fail
      refine (one_any _ _ _ _ _ _ _ C1 (by omega)).mono ?_
      rintro r w3 ⟨b3, rfl, k3⟩
      have st3 := en_draw st hz1' hp k3
      clear st k3 C1
      cases b3 with
      | false =>
        have HS3 : Hid (EnSt w w3 p a bs c (.slice av zs.length cv) zs (zz + 2)) := st3
        clear st3
        go_wp2
        go_ret
        exact ⟨_, zs, rfl, by omega, ⟨HS3.out.own, by obtain ⟨z', e1, e2⟩ := HS3.out.cur; exact ⟨z', by omega, e2⟩, HS3.out.far⟩⟩
      | true =>
        obtain ⟨g, m, cc, e, hg, hc0⟩ : ∃ g m cc, Value.slice av zs.length cv = .slice (some ⟨g, 0, none⟩) zs.length cc ∧ w.heap.size ≤ g ∧ m = cc := by
          obtain ⟨g, cap, f, hv, hg, -⟩ := row_of_ownsZ st3.own (by omega)
          exact ⟨g, cap, cap, hv, hg, rfl⟩
        simp only [Value.slice.injEq, true_and] at e
        obtain ⟨rfl, rfl⟩ := e
        have hsz := st3.far.bel.size
        have sta : ∀ o, EnSt w (w3.alloc o) p a bs c (.slice (some ⟨g, 0, none⟩) zs.length cv) zs (zz + 2) := fun o => en_below st3 hp ((Below.refl _ _).alloc (Nat.le_refl _) o)
        have hlit := ints_lit w3 [-1, 3, 4] 3
        have e3 : (zCells [-1, 3, 4]).toArray = #[Value.int .i64 (-1), Value.int .i64 3, Value.int .i64 4] := rfl
        rw [e3] at hlit
        obtain ⟨u4, hu4⟩ : ∃ u, w3.alloc (.cells #[Value.int .i64 (-1), Value.int .i64 3, Value.int .i64 4] 3) = u := ⟨_, rfl⟩
        have st4 : EnSt w u4 p a bs c (.slice (some ⟨g, 0, none⟩) zs.length cv) zs (zz + 2) := by rw [← hu4]; exact sta _
        rw [hu4] at hlit
        obtain ⟨z4, hz4', C4⟩ := st4.cur
        clear sta st3
        go_wp2_with fail
        try rw [hu4]
        clear hu4
        refine (among_any p a bs c z4 w3.heap.size _ [-1, 3, 4] u4 C4 (by omega) hlit (by omega) (by simp) (by simp)).mono ?_
        rintro r w5 ⟨y, rfl, -, k5⟩
        have st5 := en_draw st4 hz4' hp k5
        clear st4 k5 C4 hlit
        have HS6 : Hid (EnSt w (w5.setCell ⟨g, 0, none⟩ (.int .i64 y)) p a bs c (.slice (some ⟨g, 0, none⟩) zs.length cv) (zs.set 0 y) (zz + 2 + 2)) := en_store st5 hp
        obtain ⟨hcl, hfr⟩ : w5.cell? ⟨g, 0, none⟩ = some (.int .i64 (zs.getD 0 0)) ∧ w5.frozen? ⟨g, 0, none⟩ = false := by
          obtain ⟨g', cap, f, hv, hg', hn', hR, hxx⟩ := row_of_ownsZ st5.own (by omega)
          simp only [Value.slice.injEq, true_and, Option.some.injEq, Addr.mk.injEq, and_true] at hv
          obtain ⟨rfl, -⟩ := hv
          refine ⟨?_, hR.frozen 0⟩
          have h0 := hxx 0 (by omega)
          rw [hR.cell (by omega), ← h0]
          have : zs[0]? = some (zs.getD 0 0) := by rw [List.getD_eq_getElem?_getD, List.getElem?_eq_getElem (by omega)]; rfl
          exact zCells_get this
        have hz0l : (0 : Int) < (zs.length : Int) := by omega
        clear st5
        go_wp2
        go_ret
        refine ⟨_, zs.set 0 y, rfl, by simp; omega, ⟨HS6.out.own, by obtain ⟨z', e1, e2⟩ := HS6.out.cur; exact ⟨z', by omega, e2⟩, HS6.out.far⟩⟩

/-- Drawn racks and how many copies. -/
theorem drawRacksOf_any (a : Option Addr) (c : Nat) (bs : List UInt8) (w : World) (hs : Bys w a bs) (hl : bs.length ≤ 1048576) :
    Calls Tryd.prog 4 #[.slice a bs.length c] w fun e w' => ∃ a' c' zs, ∃ x : Nat, e = .returned (.tuple #[.slice a' zs.length c', .int .i64 (x : Int)]) ∧ zs.length ≤ 6 ∧ Ints w' a' zs ∧ Below w.heap.size w w' := by
  have hb : ∀ o, Below w.heap.size w (w.alloc o) := fun o => (Below.refl _ _).alloc (Nat.le_refl _) _
  have hC := cur_newR (c := c) hs hl
  obtain ⟨u, hu⟩ : ∃ u, w.alloc (.cells #[.slice a bs.length c, .int .i64 0, .int .u64 0] 39) = u := ⟨_, rfl⟩
  have hB0 : Below w.heap.size w u := by rw [← hu]; exact hb _
  have hus : w.heap.size < u.heap.size := by rw [← hu]; simp
  rw [hu] at hC
  go_enter Tryd.func4, Tryd.ntmps4
  go_wp2_with fail
  try rw [hu]
  clear hu
  refine (racks_any _ _ _ _ _ _ hC (by omega)).mono ?_
  rintro r w1 ⟨v, zs, rfl, hz6, st⟩
  obtain ⟨av, cv, rfl⟩ := ownsZ_form st.own
  obtain ⟨z1, hz1', C1⟩ := st.cur
  clear hC
  go_wp2_with fail
  refine (pick_any _ _ _ _ _ _ _ C1 (by omega)).mono ?_
  rintro r w2 ⟨x, rfl, hx, k2⟩
  have st2 := en_draw st hz1' hus k2
  have hI := (ints_of_owns st2.own).1
  have BB := hB0.trans (st2.far.bel)
  clear st st2 k2 C1
  go_wp2
  go_ret2
  exact ⟨av, cv, zs, x, rfl, hz6, hI, BB⟩

end Go.Proofs.YtilongjiacphmaaDoor
