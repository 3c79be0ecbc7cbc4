/-
  What FnCoteries draws: spec.DrawBlocksOf, DrawDominates, DrawSurvives, DrawGridQuorums.
-/
import Derived.Test.YtdibddkhjefmlaaDoorFcG
namespace Go.Proofs.YtdibddkhjefmlaaDoor
open Go.RowKit

/-- Groups that were drawn, as they are read. -/
structure GrI (w : World) (a : Option Addr) (c : Nat) (L : List (List Int)) : Prop where
  rd : Intss w a L
  n : L.length ≤ 128
  cap : L.length ≤ c
  sm : ∀ l ∈ L, l.length ≤ 7
theorem GrI.below {w w' : World} {a : Option Addr} {c : Nat} {L : List (List Int)} (h : GrI w a c L) (hb : Below w.heap.size w w') : GrI w' a c L := ⟨h.rd.below hb, h.n, h.cap, h.sm⟩
theorem GrI.of {w : World} {B c : Nat} {a : Option Addr} {qs : List QI} (h : OutQ w B a qs) (h7 : ∀ q ∈ qs, q.zs.length ≤ 7) (hn : qs.length ≤ 128) (hc : qs.length ≤ c) : GrI w a c (qs.map QI.zs) :=
  ⟨h.intss fun zs hz => by obtain ⟨q, hq, rfl⟩ := List.mem_map.1 hz; have := h7 q hq; unfold maxLen; omega, by rw [List.length_map]; exact hn, by rw [List.length_map]; exact hc, fun l hl => by obtain ⟨q, hq, rfl⟩ := List.mem_map.1 hl; exact h7 q hq⟩

set_option maxRecDepth 100000 in
set_option maxHeartbeats 4000000 in
theorem drawBlocksOf_any (a : Option Addr) (c : Nat) (bs : List UInt8) (w : World) (hs : Bys w a bs) (hl : bs.length ≤ 1048576) :
    Calls Tryd.prog 4 #[.slice a bs.length c] w fun e w' => ∃ (m : Int) (av : Option Addr) (cv : Nat) (L : List (List Int)), e = .returned (.tuple #[.int .i64 m, .slice av L.length cv]) ∧ GrI w' av cv L ∧ Below w.heap.size w w' := by
  have hb : ∀ o, Below w.heap.size w (w.alloc o) := fun o => (Below.refl _ _).alloc (Nat.le_refl _) _
  have hC := cur_newR (c := c) hs hl
  obtain ⟨u, hu⟩ : ∃ u, w.alloc (.cells #[.slice a bs.length c, .int .i64 0, .int .u64 0] 46) = u := ⟨_, rfl⟩
  have hB0 : Below w.heap.size w u := by rw [← hu]; exact hb _
  have hus : w.heap.size < u.heap.size := by rw [← hu]; simp
  rw [hu] at hC
  have hlit := ints_lit u [5, 5, 6, 7, 3, 8] 3
  have e3 : (zCells [5, 5, 6, 7, 3, 8]).toArray = #[Value.int .i64 5, Value.int .i64 5, Value.int .i64 6, Value.int .i64 7, Value.int .i64 3, Value.int .i64 8] := rfl
  rw [e3] at hlit
  obtain ⟨u4, hu4⟩ : ∃ x, u.alloc (.cells #[Value.int .i64 5, Value.int .i64 5, Value.int .i64 6, Value.int .i64 7, Value.int .i64 3, Value.int .i64 8] 3) = x := ⟨_, rfl⟩
  have hB4 : Below u.heap.size u u4 := by rw [← hu4]; exact (Below.refl _ _).alloc (Nat.le_refl _) _
  have C4 := hC.below hB4
  rw [hu4] at hlit
  have BB4 := hB0.trans (hB4.mono hB0.size)
  have hp4 : w.heap.size < u4.heap.size := Nat.lt_of_lt_of_le hus hB4.size
  have hne : u.heap.size ≠ w.heap.size := by omega
  clear hC e3 hB4
  go_enter Tryd.func4, Tryd.ntmps4
  go_wp2_with fail
  try rw [hu]
  try rw [hu4]
  clear hu hu4
  refine (among_any w.heap.size a bs c 0 u.heap.size _ [5, 5, 6, 7, 3, 8] u4 C4 (by omega) hlit hne (by simp) (by simp)).mono ?_
  rintro r w5 ⟨m, rfl, -, k5⟩
  obtain ⟨z5, hz5, C5, f5⟩ := k5
  have B5 := BB4.trans f5.bel
  have hp5 : w.heap.size < w5.heap.size := Nat.lt_of_lt_of_le hp4 f5.bel.size
  clear C4 hlit BB4
  go_wp2_with fail
  refine (groups_any _ _ _ _ _ _ C5 (by omega)).mono ?_
  rintro r w6 ⟨av, cv, qs, rfl, hO, h7, hn, hc, -, f6⟩
  have hG := GrI.of hO h7 hn hc
  have B6 := B5.trans f6.bel
  have HL : Hid (qs.length = (qs.map QI.zs).length) := by show _ = _; simp
  clear hO h7 C5 f5
  go_wp2
  go_ret2
  exact ⟨m, av, cv, qs.map QI.zs, by rw [← HL.out]; rfl, hG, B6⟩

set_option maxRecDepth 100000 in
set_option maxHeartbeats 4000000 in
theorem drawDominates_any (a : Option Addr) (c : Nat) (bs : List UInt8) (w : World) (hs : Bys w a bs) (hl : bs.length ≤ 1048576) :
    Calls Tryd.prog 14 #[.slice a bs.length c] w fun e w' => ∃ (av bv : Option Addr) (cv dv : Nat) (L M : List (List Int)), e = .returned (.tuple #[.slice av L.length cv, .slice bv M.length dv]) ∧ GrI w' av cv L ∧ GrI w' bv dv M ∧ Below w.heap.size w w' := by
  have hb : ∀ o, Below w.heap.size w (w.alloc o) := fun o => (Below.refl _ _).alloc (Nat.le_refl _) _
  have hC := cur_newR (c := c) hs hl
  obtain ⟨u, hu⟩ : ∃ u, w.alloc (.cells #[.slice a bs.length c, .int .i64 0, .int .u64 0] 46) = u := ⟨_, rfl⟩
  have hB0 : Below w.heap.size w u := by rw [← hu]; exact hb _
  have hus : w.heap.size < u.heap.size := by rw [← hu]; simp
  rw [hu] at hC
  go_enter Tryd.func14, Tryd.ntmps14
  go_wp2_with fail
  try rw [hu]
  clear hu
  refine (groups_any _ _ _ _ _ _ hC (by omega)).mono ?_
  rintro r w1 ⟨av, cv, qs, rfl, hO, h7, hn, hc, ⟨z1, hz1, C1⟩, f1⟩
  have B1 := hB0.trans f1.bel
  have hp1 : w.heap.size < w1.heap.size := Nat.lt_of_lt_of_le hus f1.bel.size
  have HL : Hid (qs.length = (qs.map QI.zs).length) := by show _ = _; simp
  clear hC f1
  go_wp2_with fail
  refine (one_any _ _ _ _ _ _ _ C1 (by omega)).mono ?_
  rintro r w2 ⟨b, rfl, k2⟩
  obtain ⟨z2, hz2, C2, f2⟩ := k2
  have B2 := B1.trans f2.bel
  have hp2 : w.heap.size < w2.heap.size := Nat.lt_of_lt_of_le hp1 f2.bel.size
  have hO2 : OutQ w2 u.heap.size av qs := hO.of_block fun b hb => f2.blk b (hO.lt hb).2 (by have := (hO.lt hb).1; omega)
  clear hO C1 f2 B1
  cases b with
  | true =>
    have hG := GrI.of hO2 h7 hn hc
    clear hO2 h7
    go_wp2
    go_ret2
    exact ⟨av, av, cv, cv, qs.map QI.zs, qs.map QI.zs, by rw [← HL.out]; rfl, hG, hG, B2⟩
  | false =>
    go_wp2_with fail
    refine (groups_any _ _ _ _ _ _ C2 (by omega)).mono ?_
    rintro r w3 ⟨bv, dv, ps, rfl, hP, g7, gn, gc, -, f3⟩
    have hO3 : OutQ w3 u.heap.size av qs := hO2.of_block fun b hb => f3.blk b (hO2.lt hb).2 (by have := (hO2.lt hb).1; omega)
    have hG := GrI.of hO3 h7 hn hc
    have hH := GrI.of hP g7 gn gc
    have B3 := B2.trans f3.bel
    have HM : Hid (ps.length = (ps.map QI.zs).length) := by show _ = _; simp
    clear hO2 hO3 hP h7 g7 C2
    go_wp2
    go_ret2
    exact ⟨av, bv, cv, dv, qs.map QI.zs, ps.map QI.zs, by rw [← HL.out, ← HM.out]; rfl, hG, hH, B3⟩

set_option maxRecDepth 100000 in
set_option maxHeartbeats 4000000 in
theorem drawSurvives_any (a : Option Addr) (c : Nat) (bs : List UInt8) (w : World) (hs : Bys w a bs) (hl : bs.length ≤ 1048576) :
    Calls Tryd.prog 17 #[.slice a bs.length c] w fun e w' => ∃ (av bv : Option Addr) (cv dv : Nat) (L : List (List Int)) (zs : List Int), e = .returned (.tuple #[.slice av L.length cv, .slice bv zs.length dv]) ∧ GrI w' av cv L ∧ Ints w' bv zs ∧ zs.length ≤ 6 ∧ Below w.heap.size w w' := by
  have hb : ∀ o, Below w.heap.size w (w.alloc o) := fun o => (Below.refl _ _).alloc (Nat.le_refl _) _
  have hC := cur_newR (c := c) hs hl
  obtain ⟨u, hu⟩ : ∃ u, w.alloc (.cells #[.slice a bs.length c, .int .i64 0, .int .u64 0] 46) = u := ⟨_, rfl⟩
  have hB0 : Below w.heap.size w u := by rw [← hu]; exact hb _
  have hus : w.heap.size < u.heap.size := by rw [← hu]; simp
  rw [hu] at hC
  go_enter Tryd.func17, Tryd.ntmps17
  go_wp2_with fail
  try rw [hu]
  clear hu
  refine (groups_any _ _ _ _ _ _ hC (by omega)).mono ?_
  rintro r w1 ⟨av, cv, qs, rfl, hO, h7, hn, hc, ⟨z1, hz1, C1⟩, f1⟩
  have B1 := hB0.trans f1.bel
  have HL : Hid (qs.length = (qs.map QI.zs).length) := by show _ = _; simp
  clear hC f1
  go_wp2_with fail
  refine (some_any _ _ _ _ _ 5 _ C1 (by omega) (by omega)).mono ?_
  rintro r w2 ⟨v, zs, rfl, hy, st⟩
  obtain ⟨bv, dv, rfl⟩ := ownsZ_form st.own
  have hI := (ints_of_owns st.own).1
  have hO2 : OutQ w2 u.heap.size av qs := hO.of_block fun b hb => st.far.blk b (hO.lt hb).2 (by have := (hO.lt hb).1; omega)
  have hG := GrI.of hO2 h7 hn hc
  have B2 := B1.trans st.far.bel
  clear hO hO2 h7 C1 st
  go_wp2
  go_ret2
  exact ⟨av, bv, cv, dv, qs.map QI.zs, zs, by rw [← HL.out]; rfl, hG, hI, by omega, B2⟩

set_option maxRecDepth 100000 in
set_option maxHeartbeats 4000000 in
theorem drawGridQuorums_any (a : Option Addr) (c : Nat) (bs : List UInt8) (w : World) (hs : Bys w a bs) (hl : bs.length ≤ 1048576) :
    Calls Tryd.prog 19 #[.slice a bs.length c] w fun e w' => ∃ x y : Nat, e = .returned (.tuple #[.int .i64 (x : Int), .int .i64 (y : Int)]) ∧ x ≤ 4 ∧ y ≤ 4 ∧ Below w.heap.size w w' := by
  have hb : ∀ o, Below w.heap.size w (w.alloc o) := fun o => (Below.refl _ _).alloc (Nat.le_refl _) _
  have hC := cur_newR (c := c) hs hl
  obtain ⟨u, hu⟩ : ∃ u, w.alloc (.cells #[.slice a bs.length c, .int .i64 0, .int .u64 0] 46) = u := ⟨_, rfl⟩
  have hB0 : Below w.heap.size w u := by rw [← hu]; exact hb _
  rw [hu] at hC
  go_enter Tryd.func19, Tryd.ntmps19
  go_wp2_with fail
  try rw [hu]
  clear hu
  refine (pick_any _ _ _ _ _ _ _ hC (by omega)).mono ?_
  rintro r w1 ⟨x, rfl, hx, k1⟩
  obtain ⟨z1, hz1, C1, f1⟩ := k1
  have B1 := hB0.trans f1.bel
  clear hC f1
  go_wp2_with fail
  refine (pick_any _ _ _ _ _ _ _ C1 (by omega)).mono ?_
  rintro r w2 ⟨y, rfl, hy, k2⟩
  obtain ⟨z2, hz2, C2, f2⟩ := k2
  have B2 := B1.trans f2.bel
  clear C1 f2
  go_wp2
  go_ret2
  exact ⟨x, y, rfl, by omega, by omega, B2⟩

end Go.Proofs.YtdibddkhjefmlaaDoor
