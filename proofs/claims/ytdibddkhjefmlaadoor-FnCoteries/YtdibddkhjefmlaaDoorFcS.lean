/-
  What FnCoteries asks besides: lists that are the same, whether a number is in a list; and the plain facts on coteries and grids.
-/
import Derived.Test.YtdibddkhjefmlaaDoorCoM
import Derived.Test.YtdibddkhjefmlaaDoorFcD
import Derived.Test.YtdibddkhjefmlaaDoorQGQ
namespace Go.Proofs.YtdibddkhjefmlaaDoor
open Go.RowKit

set_option maxRecDepth 100000 in
set_option maxHeartbeats 4000000 in
theorem sameInts_same (a b : Option Addr) (c d : Nat) (zs : List Int) (w : World) (hx : Ints w a zs) (hy : Ints w b zs) (hl : zs.length ≤ maxLen) :
    Calls Tryd.prog 38 #[.slice a zs.length c, .slice b zs.length d] w fun e w' => e = .returned (.bool true) ∧ ∃ m, w' = w.drewN m := by
  unfold maxLen at hl
  go_enter Tryd.func38, Tryd.ntmps38
  go_wp2
  go_loopw [13] (fun i wr => ∃ k m : Nat, k ≤ zs.length ∧ i = .int .i64 k ∧ wr = w.drewN m) (fun i _ => zs.length - (intOf i).toNat)
  case atStart => exact ⟨0, 0, Nat.zero_le _, rfl, rfl⟩
  case round =>
    obtain ⟨k, m, hk, rfl, hwr⟩ := hrel
    have hB : Below w.heap.size w wr := by rw [hwr]; exact below_drewN (Below.refl _ _) m
    have HW : Hid (wr = w.drewN m) := hwr
    clear hwr
    by_cases hlt : k < zs.length
    · obtain ⟨b1, o1, rfl, hc1⟩ := (hx.below hB) k _ (zA_get hlt)
      obtain ⟨b2, o2, rfl, hc2⟩ := (hy.below hB) k _ (zA_get hlt)
      have hki : (k : Int) < (zs.length : Int) := by omega
      generalize zA zs k = y at *
      have dy : (y != y) = false := by simp
      clear hx hy hB
      go_wp2
      go_quiet (fail)
      go_wp2
      go_roundw
      case rel => exact ⟨k + 1, _, by omega, by go_num, by rw [HW.out, World.drewN_drewN]⟩
      case measure => simp [intOf]; omega
    · obtain rfl : k = zs.length := by omega
      clear hx hy hB
      go_wp2
      go_ret
      exact ⟨rfl, m, HW.out⟩

set_option maxRecDepth 100000 in
set_option maxHeartbeats 4000000 in
theorem sameLists_same (a b : Option Addr) (c d : Nat) (L : List (List Int)) (w : World) (hx : Intss w a L) (hy : Intss w b L) (hl : L.length ≤ maxLen) :
    Calls Tryd.prog 11 #[.slice a L.length c, .slice b L.length d] w fun e w' => e = .returned (.bool true) ∧ ∃ m, w' = w.drewN m := by
  unfold maxLen at hl
  go_enter Tryd.func11, Tryd.ntmps11
  go_wp2
  go_loopw [13] (fun i wr => ∃ k m : Nat, k ≤ L.length ∧ i = .int .i64 k ∧ wr = w.drewN m) (fun i _ => L.length - (intOf i).toNat)
  case atStart => exact ⟨0, 0, Nat.zero_le _, rfl, rfl⟩
  case round =>
    obtain ⟨k, m, hk, rfl, hwr⟩ := hrel
    have hB : Below w.heap.size w wr := by rw [hwr]; exact below_drewN (Below.refl _ _) m
    have HW : Hid (wr = w.drewN m) := hwr
    clear hwr
    by_cases hlt : k < L.length
    · obtain ⟨g, hg⟩ := getL hlt
      obtain ⟨b1, o1, ai, ci, rfl, hc1, hI1, hgm⟩ := (hx.below hB) k g hg
      obtain ⟨b2, o2, bi, di, rfl, hc2, hI2, -⟩ := (hy.below hB) k g hg
      have hki : (k : Int) < (L.length : Int) := by omega
      have hq : ∀ q, Calls Tryd.prog 38 #[.slice ai g.length ci, .slice bi g.length di] (wr.drewN q) fun e w' => e = .returned (.bool true) ∧ ∃ m, w' = (wr.drewN q).drewN m := fun q => sameInts_same ai bi ci di g (wr.drewN q) (hI1.below (below_drewN (Below.refl _ _) q)) (hI2.below (below_drewN (Below.refl _ _) q)) hgm
      clear hx hy hB hI1 hI2 hg
      go_wp2
      go_quiet ((go_at_call 38; refine Calls.quiet_of (hq _)))
      go_wp2
      go_roundw
      case rel => exact ⟨k + 1, _, by omega, by go_num, by rw [HW.out, World.drewN_drewN]⟩
      case measure => simp [intOf]; omega
    · obtain rfl : k = L.length := by omega
      clear hx hy hB
      go_wp2
      go_ret
      exact ⟨rfl, m, HW.out⟩

set_option maxRecDepth 100000 in
set_option maxHeartbeats 4000000 in
theorem hasZ_any (a : Option Addr) (c : Nat) (zs : List Int) (x : Int) (b : Bool) (w : World) (hs : Ints w a zs) (hl : zs.length ≤ maxLen) (h : zs.contains x = b) :
    Calls Tryd.prog 13 #[.slice a zs.length c, .int .i64 x] w fun r w' => r = .returned (.bool b) ∧ w' = w := by
  have HB : Hid (zs.contains x = b) := h
  clear h
  unfold maxLen at hl
  go_enter Tryd.func13, Tryd.ntmps13
  go_wp2
  go_loop [9] (fun i => ∃ k : Nat, k ≤ zs.length ∧ i = .int .i64 k ∧ Hid (∀ i, i < k → ¬ zA zs i = x)) (fun i => zs.length - (intOf i).toNat)
  case atStart => exact ⟨0, Nat.zero_le _, rfl, fun i hi => absurd hi (Nat.not_lt_zero _)⟩
  case round =>
    obtain ⟨k, hk, rfl, HO⟩ := hrel
    by_cases hlt : k < zs.length
    · obtain ⟨kb, off, rfl, hc⟩ := hs k _ (zA_get hlt)
      have HM : Hid (zA zs k ∈ zs) := List.mem_of_getElem? (zA_get hlt)
      have hki : (k : Int) < (zs.length : Int) := by omega
      have HN : Hid (¬ zA zs k = x → ∀ i, i < k + 1 → ¬ zA zs i = x) := fun h i hi => by
        rcases Nat.lt_or_eq_of_le (Nat.le_of_lt_succ hi) with h1 | rfl
        · exact HO.out i h1
        · exact h
      clear hs
      generalize zA zs k = y at *
      by_cases e : y = x
      · have d : (y == x) = true := by simp [e]
        have HE : Hid (b = true) := by show _ = _; rw [← HB.out, ← e]; exact List.contains_iff_mem.2 HM.out
        clear e
        go_wp2
        go_ret
        exact ⟨ret_bool HE.out.symm, rfl⟩
      · have d : (y == x) = false := by simp [e]
        have HS := (show Hid _ from HN.out e)
        clear e
        go_wp2
        go_round
        case rel => exact ⟨k + 1, by omega, by go_num, HS.out⟩
        case measure => simp [intOf]; omega
    · obtain rfl : k = zs.length := by omega
      have HE : Hid (b = false) := by
        show _ = _
        rw [← HB.out]
        rw [Bool.eq_false_iff]
        intro h
        obtain ⟨i, hi, e⟩ := List.getElem_of_mem (List.contains_iff_mem.1 h)
        exact HO.out i hi (by simp [zA, List.getD_eq_getElem?_getD, hi, e])
      go_wp2
      go_ret
      exact ⟨ret_bool HE.out.symm, rfl⟩

theorem cot_all {L : List (List Int)} (h : cotL L = true) : allL L = true := by
  simp only [cotL, Bool.and_eq_true] at h
  exact h.2
theorem dom_comm (A B : List (List Int)) : domOk A B = domOk B A := by
  unfold domOk
  generalize goodL A 7 = a
  generalize goodL B 7 = b
  generalize cotL A = c
  generalize cotL B = d
  revert a b c d
  decide
set_option maxRecDepth 100000 in
theorem grid_all : ∀ x : Nat, x < 5 → ∀ y : Nat, y < 5 → gqOk (x : Int) (y : Int) = true → goodL (gqL (x : Int) (y : Int)) 7 = true ∧ allL (gqL (x : Int) (y : Int)) = true ∧ (gqL (x : Int) (y : Int)).length = x * y := by decide +kernel
theorem bo_good {z : Int} {L : List (List Int)} (h : boOk z L = true) : goodL L 7 = true := by
  simp only [boOk, boPre, Bool.and_eq_true] at h
  have h1 := inB_t.1 h.1.1
  obtain ⟨h2, h3⟩ := goodL_t.1 h.1.2
  refine goodL_t.2 ⟨fun i hi => ?_, h3⟩
  obtain ⟨h4, h5⟩ := h2 i hi
  exact ⟨h4, rise_up (by omega) h5⟩

end Go.Proofs.YtdibddkhjefmlaaDoor
