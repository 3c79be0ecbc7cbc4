/-
  What FnPasts draws: spec.DrawCausalPast, DrawHappensBefore; lists that are the same, whether a number is in a list. Made by mkpstl.py.
-/
import Derived.Test.YtiabgomeogcpnaaDoorPstE
namespace Go.Proofs.YtiabgomeogcpnaaDoor
open Go.RowKit

/-- The cursor over code, newly made. -/
theorem cur_newR {w : World} {a : Option Addr} {bs : List UInt8} {c : Nat} (hs : Bys w a bs) (hl : bs.length ≤ 1048576) :
    Cur (w.alloc (.cells #[.slice a bs.length c, .int .i64 0, .int .u64 0] 39)) w.heap.size a bs c 0 := by
  have hb : Below w.heap.size w (w.alloc (.cells #[.slice a bs.length c, .int .i64 0, .int .u64 0] 39)) := (Below.refl _ _).alloc (Nat.le_refl _) _
  refine ⟨by simp, by simp, ⟨0, by simp⟩, fun i => by simp [go_sem], hs.below hb, hs.lt, hl⟩

set_option maxRecDepth 100000 in
set_option maxHeartbeats 4000000 in
theorem sameInts_same (a b : Option Addr) (c d : Nat) (zs : List Int) (w : World) (hx : Ints w a zs) (hy : Ints w b zs) (hl : zs.length ≤ maxLen) :
    Calls Tryd.prog 7 #[.slice a zs.length c, .slice b zs.length d] w fun e w' => e = .returned (.bool true) ∧ ∃ m, w' = w.drewN m := by
  unfold maxLen at hl
  go_enter Tryd.func7, Tryd.ntmps7
  go_wp2
  go_loopw [13] (fun i wr => ∃ k m : Nat, k ≤ zs.length ∧ i = .int .i64 k ∧ wr = w.drewN m) (fun i _ => zs.length - (intOf i).toNat)
  case atStart => exact ⟨0, 0, Nat.zero_le _, rfl, rfl⟩
  case round =>
    obtain ⟨k, m, hk, rfl, hwr⟩ := hrel
    have hB : Below w.heap.size w wr := by rw [hwr]; exact below_drewN (Below.refl _ _) m
    have HW : Hid (wr = w.drewN m) := hwr
    clear hwr
    by_cases hlt : k < zs.length
    · obtain ⟨b1, o1, rfl, hc1⟩ := (hx.below hB) k _ (zA_get hlt)
      obtain ⟨b2, o2, rfl, hc2⟩ := (hy.below hB) k _ (zA_get hlt)
      have hki : (k : Int) < (zs.length : Int) := by omega
      generalize zA zs k = y at *
      have dy : (y != y) = false := by simp
      clear hx hy hB
      go_wp2
      go_quiet (fail)
      go_wp2
      go_roundw
      case rel => exact ⟨k + 1, _, by omega, by go_num, by rw [HW.out, World.drewN_drewN]⟩
      case measure => simp [intOf]; omega
    · obtain rfl : k = zs.length := by omega
      clear hx hy hB
      go_wp2
      go_ret
      exact ⟨rfl, m, HW.out⟩

set_option maxRecDepth 100000 in
set_option maxHeartbeats 4000000 in
theorem hasZ_any (a : Option Addr) (c : Nat) (zs : List Int) (x : Int) (b : Bool) (w : World) (hs : Ints w a zs) (hl : zs.length ≤ maxLen) (h : zs.contains x = b) :
    Calls Tryd.prog 9 #[.slice a zs.length c, .int .i64 x] w fun r w' => r = .returned (.bool b) ∧ w' = w := by
  have HB : Hid (zs.contains x = b) := h
  clear h
  unfold maxLen at hl
  go_enter Tryd.func9, Tryd.ntmps9
  go_wp2
  go_loop [9] (fun i => ∃ k : Nat, k ≤ zs.length ∧ i = .int .i64 k ∧ Hid (∀ i, i < k → ¬ zA zs i = x)) (fun i => zs.length - (intOf i).toNat)
  case atStart => exact ⟨0, Nat.zero_le _, rfl, fun i hi => absurd hi (Nat.not_lt_zero _)⟩
  case round =>
    obtain ⟨k, hk, rfl, HO⟩ := hrel
    by_cases hlt : k < zs.length
    · obtain ⟨kb, off, rfl, hc⟩ := hs k _ (zA_get hlt)
      have HM : Hid (zA zs k ∈ zs) := List.mem_of_getElem? (zA_get hlt)
      have hki : (k : Int) < (zs.length : Int) := by omega
      have HN : Hid (¬ zA zs k = x → ∀ i, i < k + 1 → ¬ zA zs i = x) := fun h i hi => by
        rcases Nat.lt_or_eq_of_le (Nat.le_of_lt_succ hi) with h1 | rfl
        · exact HO.out i h1
        · exact h
      clear hs
      generalize zA zs k = y at *
      by_cases e : y = x
      · have d : (y == x) = true := by simp [e]
        have HE : Hid (b = true) := by show _ = _; rw [← HB.out, ← e]; exact List.contains_iff_mem.2 HM.out
        clear e
        go_wp2
        go_ret
        exact ⟨ret_bool HE.out.symm, rfl⟩
      · have d : (y == x) = false := by simp [e]
        have HS := (show Hid _ from HN.out e)
        clear e
        go_wp2
        go_round
        case rel => exact ⟨k + 1, by omega, by go_num, HS.out⟩
        case measure => simp [intOf]; omega
    · obtain rfl : k = zs.length := by omega
      have HE : Hid (b = false) := by
        show _ = _
        rw [← HB.out]
        rw [Bool.eq_false_iff]
        intro h
        obtain ⟨i, hi, e⟩ := List.getElem_of_mem (List.contains_iff_mem.1 h)
        exact HO.out i hi (by simp [zA, List.getD_eq_getElem?_getD, hi, e])
      go_wp2
      go_ret
      exact ⟨ret_bool HE.out.symm, rfl⟩

set_option maxRecDepth 100000 in
set_option maxHeartbeats 4000000 in
theorem drawCP_any (a : Option Addr) (c : Nat) (bs : List UInt8) (w : World) (hs : Bys w a bs) (hl : bs.length ≤ 1048576) :
    Calls Tryd.prog 4 #[.slice a bs.length c] w fun e w' => ∃ (m : Int) (av : Option Addr) (cv : Nat) (l : List Ev) (z : Int), e = .returned (.tuple #[.int .i64 m, .slice av l.length cv, .int .i64 z]) ∧ Evs w' av l ∧ l.length ≤ cv ∧ l.length ≤ 25 ∧ Below w.heap.size w w' := by
  have hb : ∀ o, Below w.heap.size w (w.alloc o) := fun o => (Below.refl _ _).alloc (Nat.le_refl _) _
  have hC := cur_newR (c := c) hs hl
  obtain ⟨u, hu⟩ : ∃ u, w.alloc (.cells #[.slice a bs.length c, .int .i64 0, .int .u64 0] 39) = u := ⟨_, rfl⟩
  have hB0 : Below w.heap.size w u := by rw [← hu]; exact hb _
  rw [hu] at hC
  go_enter Tryd.func4, Tryd.ntmps4
  go_wp2_with fail
  try rw [hu]
  clear hu
  refine (events_any _ _ _ _ _ _ hC (by omega)).mono ?_
  rintro r w1 ⟨m, av, cv, l, rfl, hE, hcv, h25, ⟨z1, hz1, C1⟩, f1⟩
  have B1 := hB0.trans f1.bel
  clear hC
  go_wp2_with fail
  refine (pick_any _ _ _ _ _ _ _ C1 (by omega)).mono ?_
  rintro r w2 ⟨d0, rfl, hd0, z2, hz2, C2, f2⟩
  have hE2 := E_far hE f2
  have B2 := B1.trans f2.bel
  clear C1 C2
  go_wp2
  refine bodyPost_ret (v := .tuple #[.int .i64 m, .slice av l.length cv, .int .i64 ((d0 : Int) - 1)]) (by simp [results, Tryd.results4, go_sem]) rfl ⟨m, av, cv, l, (d0 : Int) - 1, rfl, hE2.1, hcv, h25, B2⟩

set_option maxRecDepth 100000 in
set_option maxHeartbeats 4000000 in
theorem drawHB_any (a : Option Addr) (c : Nat) (bs : List UInt8) (w : World) (hs : Bys w a bs) (hl : bs.length ≤ 1048576) :
    Calls Tryd.prog 10 #[.slice a bs.length c] w fun e w' => ∃ (m : Int) (av : Option Addr) (cv : Nat) (l : List Ev) (z y : Int), e = .returned (.tuple #[.int .i64 m, .slice av l.length cv, .int .i64 z, .int .i64 y]) ∧ Evs w' av l ∧ l.length ≤ cv ∧ l.length ≤ 25 ∧ Below w.heap.size w w' := by
  have hb : ∀ o, Below w.heap.size w (w.alloc o) := fun o => (Below.refl _ _).alloc (Nat.le_refl _) _
  have hC := cur_newR (c := c) hs hl
  obtain ⟨u, hu⟩ : ∃ u, w.alloc (.cells #[.slice a bs.length c, .int .i64 0, .int .u64 0] 39) = u := ⟨_, rfl⟩
  have hB0 : Below w.heap.size w u := by rw [← hu]; exact hb _
  rw [hu] at hC
  go_enter Tryd.func10, Tryd.ntmps10
  go_wp2_with fail
  try rw [hu]
  clear hu
  refine (events_any _ _ _ _ _ _ hC (by omega)).mono ?_
  rintro r w1 ⟨m, av, cv, l, rfl, hE, hcv, h25, ⟨z1, hz1, C1⟩, f1⟩
  have B1 := hB0.trans f1.bel
  clear hC
  go_wp2_with fail
  refine (pick_any _ _ _ _ _ _ _ C1 (by omega)).mono ?_
  rintro r w2 ⟨d0, rfl, hd0, z2, hz2, C2, f2⟩
  have hE2 := E_far hE f2
  have B2 := B1.trans f2.bel
  go_wp2_with fail
  refine (pick_any _ _ _ _ _ _ _ C2 (by omega)).mono ?_
  rintro r w3 ⟨d1, rfl, hd1, z3, hz3, C3, f3⟩
  have hE3 := E_far hE2 f3
  have B3 := B2.trans f3.bel
  clear C1 C2 C3
  go_wp2
  refine bodyPost_ret (v := .tuple #[.int .i64 m, .slice av l.length cv, .int .i64 ((d0 : Int)), .int .i64 ((d1 : Int))]) (by simp [results, Tryd.results10, go_sem]) rfl ⟨m, av, cv, l, d0, d1, rfl, hE3.1, hcv, h25, B3⟩

end Go.Proofs.YtiabgomeogcpnaaDoor
