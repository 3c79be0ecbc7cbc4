/-
  Drawn racks and drawn homes: spec.(*l1Cur).racks, spec.(*l1Cur).some, spec.DrawRacksOf.
-/
import Derived.Test.YtdibddkhjefmlaaDoorCurE2
namespace Go.Proofs.YtdibddkhjefmlaaDoor
open Go.RowKit

/-- The cursor over code, newly made. -/
theorem cur_newR {w : World} {a : Option Addr} {bs : List UInt8} {c : Nat} (hs : Bys w a bs) (hl : bs.length ≤ 1048576) :
    Cur (w.alloc (.cells #[.slice a bs.length c, .int .i64 0, .int .u64 0] 46)) w.heap.size a bs c 0 := by
  have hb : Below w.heap.size w (w.alloc (.cells #[.slice a bs.length c, .int .i64 0, .int .u64 0] 46)) := (Below.refl _ _).alloc (Nat.le_refl _) _
  refine ⟨by simp, by simp, ⟨0, by simp⟩, fun i => by simp [go_sem], hs.below hb, hs.lt, hl⟩

set_option maxRecDepth 100000 in
set_option maxHeartbeats 4000000 in
theorem some_any (p : Nat) (a : Option Addr) (bs : List UInt8) (c z many : Nat) (w : World) (h : Cur w p a bs c z) (hz : z ≤ 800000000) (hm : many ≤ 1000) :
    Calls Tryd.prog 43 #[.pointer (some ⟨p, 0, none⟩), .int .i64 (many : Int)] w fun e w' => ∃ v zs, e = .returned v ∧ zs.length ≤ many + 1 ∧ EnSt w w' p a bs c v zs (z + 2 * many + 4) := by
  have hp : p < w.heap.size := lt_of_cell h.c0
  obtain ⟨i0, hi, hz0, hz1, hz2⟩ := info_parts Tryd.infoInt
  have st0 : EnSt w w p a bs c (.slice none 0 0) [] z := ⟨World.ownsRow_nil _ _ _ _, ⟨z, Nat.le_refl _, h⟩, Far.refl _ _⟩
  clear h
  go_enter Tryd.func43, Tryd.ntmps43
  go_wp2
  go_loopw [5, 6] (fun v kv wr => ∃ (zs : List Int) (k : Nat), k ≤ many ∧ kv = .int .i64 (k : Int) ∧ zs.length ≤ k ∧ EnSt w wr p a bs c v zs (z + 2 * k)) (fun _ kv _ => many - (intOf kv).toNat)
  case atStart => exact ⟨[], 0, Nat.zero_le _, rfl, Nat.le_refl _, st0⟩
  case round =>
    clear st0
    obtain ⟨zs, k, hk, rfl, hzk, st⟩ := hrel
    obtain ⟨av, cv, rfl⟩ := ownsZ_form st.own
    obtain ⟨z1, hz1', C1⟩ := st.cur
    by_cases hlt : k < many
    · have hki : (k : Int) < (many : Int) := by omega
      go_wp2_with fail
      refine (one_any _ _ _ _ _ _ _ C1 (by omega)).mono ?_
      rintro r w3 ⟨b3, rfl, k3⟩
      have st3 := en_draw st hz1' hp k3
      clear st k3 C1
      have hsz := st3.far.bel.size
      cases b3 with
      | true =>
        have sta : ∀ o, EnSt w (w3.alloc o) p a bs c (.slice av zs.length cv) zs (z + 2 * k + 2) := fun o => en_below st3 hp ((Below.refl _ _).alloc (Nat.le_refl _) o)
        have hws : w.heap.size ≤ w3.heap.size := by have := (st3.own).1; exact Nat.le_trans (by have := st3.far.bel.size; exact this) (Nat.le_refl _)
        go_wp2_with (at_builtin; refine wpList_append_lies _ rfl _ _ 31 rfl w.heap.size 3 i0 _ 1 8 Tryd.underlying31 hi hz0 hz1 hz2 rfl (by decide) (.slice av zs.length cv) zs.length (zCells zs) rfl (sta _).own ⟨w3.heap.size, 0, none⟩ 1 1 [.int .i64 (k : Int)] rfl rfl ?c1 ?c2 (by omega) ?c3 ?c4 ?c5 (w3.heap.size + 1) ?c6 ?_)
        try (case c1 => first | exact (fun j u h => h) | exact World.news_of_block (cs := #[.int .i64 (k : Int)]) (t := 3) (fr := (0, 0)) (by first | exact (heap_alloc_new w3 _) | simpa using (heap_alloc_new w3 _)))
        case c2 => simp [Value.oneCell']
        case c3 => unfold maxLen; omega
        case c4 => omega
        case c5 => first | omega | (simp; omega)
        try (case c6 => simp)
        intro g8 cap8 w8 hown8 hgrow8 hat8 _
        have st8 := en_grown (sta _) hp hgrow8 hown8
        have HS8 : Hid (EnSt w w8 p a bs c (.slice (some ⟨g8, 0, none⟩) (zs.length + 1) cap8) (zs ++ [(k : Int)]) (z + 2 * k + 2)) := st8
        clear st8 hown8 hgrow8 hat8 sta st3
        go_wp2_with fail
        go_roundw
        case rel => exact ⟨zs ++ [(k : Int)], k + 1, by omega, by go_num, by simp; omega, HS8.out⟩
        case measure => simp [intOf]; omega
      | false =>
        have HS3 : Hid (EnSt w w3 p a bs c (.slice av zs.length cv) zs (z + 2 * k + 2)) := st3
        clear st3
        go_wp2
        go_roundw
        case rel => exact ⟨zs, k + 1, by omega, by go_num, by omega, HS3.out⟩
        case measure => simp [intOf]; omega
    · obtain rfl : k = many := by omega
      go_wp2_with fail
      refine (one_any _ _ _ _ _ _ _ C1 (by omega)).mono ?_
      rintro r w3 ⟨b3, rfl, k3⟩
      have st3 := en_draw st hz1' hp k3
      clear st k3 C1
      cases b3 with
      | false =>
        have HS3 : Hid (EnSt w w3 p a bs c (.slice av zs.length cv) zs (z + 2 * k + 2)) := st3
        clear st3
        go_wp2
        go_ret
        exact ⟨_, zs, rfl, by omega, ⟨HS3.out.own, by obtain ⟨z', e1, e2⟩ := HS3.out.cur; exact ⟨z', by omega, e2⟩, HS3.out.far⟩⟩
      | true =>
        obtain ⟨z3, hz3', C3⟩ := st3.cur
        go_wp2_with fail
        refine (pick_any _ _ _ _ _ _ _ C3 (by omega)).mono ?_
        rintro r w4 ⟨y, rfl, hy, k4⟩
        have st4 := en_draw st3 hz3' hp k4
        clear st3 k4 C3
        have hsz := st4.far.bel.size
        have sta : ∀ o, EnSt w (w4.alloc o) p a bs c (.slice av zs.length cv) zs (z + 2 * k + 2 + 2) := fun o => en_below st4 hp ((Below.refl _ _).alloc (Nat.le_refl _) o)
        go_wp2_with (at_builtin; refine wpList_append_lies _ rfl _ _ 31 rfl w.heap.size 3 i0 _ 1 8 Tryd.underlying31 hi hz0 hz1 hz2 rfl (by decide) (.slice av zs.length cv) zs.length (zCells zs) rfl (sta _).own ⟨w4.heap.size, 0, none⟩ 1 1 [.int .i64 (y : Int)] rfl rfl ?c1 ?c2 (by omega) ?c3 ?c4 ?c5 (w4.heap.size + 1) ?c6 ?_)
        try (case c1 => first | exact (fun j u h => h) | exact World.news_of_block (cs := #[.int .i64 (y : Int)]) (t := 3) (fr := (0, 0)) (by first | exact (heap_alloc_new w4 _) | simpa using (heap_alloc_new w4 _)))
        case c2 => simp [Value.oneCell']
        case c3 => unfold maxLen; omega
        case c4 => omega
        case c5 => first | omega | (simp; omega)
        try (case c6 => simp)
        intro g8 cap8 w8 hown8 hgrow8 hat8 _
        have st8 := en_grown (sta _) hp hgrow8 hown8
        have HS8 : Hid (EnSt w w8 p a bs c (.slice (some ⟨g8, 0, none⟩) (zs.length + 1) cap8) (zs ++ [(y : Int)]) (z + 2 * k + 4)) := st8
        clear st8 hown8 hgrow8 hat8 sta st4
        go_wp2_with fail
        go_ret
        exact ⟨_, zs ++ [(y : Int)], rfl, by simp; omega, HS8.out⟩

end Go.Proofs.YtdibddkhjefmlaaDoor
