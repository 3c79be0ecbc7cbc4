/-
  Groups of replicas, the specification's side: l11Log, l11Same. Made by mkcus.py (out of GrS).
-/
import Derived.Test.YtekjpbfmiebigaaDoorRwM
import Derived.Deep.RegionHeld3
import Derived.WalkMore
import Derived.BigQuiet
namespace Go.Proofs.YtekjpbfmiebigaaDoor
open Go.RowKit

theorem l1In_c (n lo hi : Int) (b : Bool) (w : World) (h : inB n lo hi = b) : Calls Tryd.prog 17 #[.int .i64 n, .int .i64 lo, .int .i64 hi] w fun e w' => e = .returned (.bool b) ∧ w' = w := by
  rw [← h]; exact l1In_any n lo hi w

set_option maxRecDepth 100000 in
set_option maxHeartbeats 4000000 in
theorem l11Log_any (a : Option Addr) (c : Nat) (l : List Rw) (epoch : Int) (w : World) (hs : Rws w a l) (hl : l.length ≤ maxLen) :
    Calls Tryd.prog 53 #[.slice a l.length c, .int .i64 epoch] w fun e w' => e = .returned (.bool (rlogB l epoch)) ∧ Below w.heap.size w w' := by
  unfold maxLen at hl
  go_enter Tryd.func53, Tryd.ntmps53
  go_wp2
  go_loopw [9] (fun i wr => ∃ k : Nat, k ≤ l.length ∧ i = .int .i64 k ∧ Hid (rwTo l epoch k) ∧ Below w.heap.size w wr) (fun i _ => l.length - (intOf i).toNat)
  case atStart => exact ⟨0, Nat.zero_le _, rfl, (fun i hi => absurd hi (Nat.not_lt_zero _)), Below.refl _ _⟩
  case round =>
    obtain ⟨k, hk, rfl, HO, hB⟩ := hrel
    by_cases hlt : k < l.length
    · obtain ⟨b, off, rfl, c0, c1⟩ := (hs.below hB) k _ (rwA_get hlt)
      have hBn : ∀ o, Below w.heap.size w (wr.alloc o) := fun o => hB.alloc hB.size o
      obtain ⟨x, hx⟩ : ∃ x, rwA l k = x := ⟨_, rfl⟩
      have HX : Hid (rwA l k = x) := hx
      rw [hx] at c0 c1
      clear hx
      have lb := lt_of_cell c0
      cases h1 : inB x.epoch 0 epoch with
      | false =>
        clear hs
        go_wp2_with fail
        go_quiet ((go_at_call 17; exact Calls.quiet_of_same (l1In_c _ _ _ _ _ h1)))
        go_wp2
        go_ret
        exact ⟨ret_bool (rlogB_bad hlt (fun h => by unfold rwOk at h; rw [HX.out] at h; have := h.1; rw [h1] at this; cases this)).symm, below_drewN (hBn _) nq⟩
      | true =>
        cases h2 : inB x.val 0 99 with
        | false =>
          clear hs
          go_wp2_with fail
          go_quiet (first | (go_at_call_of 17 (Value.int .i64 x.epoch); exact Calls.quiet_of_same (l1In_c _ _ _ _ _ h1)) | (go_at_call 17; exact Calls.quiet_of_same (l1In_c _ _ _ _ _ h2)))
          go_wp2
          go_ret
          exact ⟨ret_bool (rlogB_bad hlt (fun h => by unfold rwOk at h; rw [HX.out] at h; have := h.2.1; rw [h2] at this; cases this)).symm, below_drewN (hBn _) nq⟩
        | true =>
          rcases Nat.eq_zero_or_pos k with h0 | h0
          · subst h0
            simp only [Nat.zero_mul, Nat.add_zero] at c0 c1
            clear hs
            go_wp2_with fail
            go_quiet (first | (go_at_call_of 17 (Value.int .i64 x.epoch); exact Calls.quiet_of_same (l1In_c _ _ _ _ _ h1)) | (go_at_call 17; exact Calls.quiet_of_same (l1In_c _ _ _ _ _ h2)))
            go_wp2
            go_roundw
            case rel => exact ⟨1, by omega, rfl, rwTo_succ HO.out (by unfold rwOk; rw [HX.out]; exact ⟨h1, h2, fun h => absurd h (Nat.lt_irrefl _)⟩), below_drewN (hBn _) nq⟩
            case measure => simp [intOf]; omega
          · obtain ⟨j, rfl⟩ : ∃ j, k = j + 1 := ⟨k - 1, by omega⟩
            obtain ⟨b', off', e', d0, d1⟩ := (hs.below hB) j _ (rwA_get (by omega))
            simp only [Option.some.injEq, Addr.mk.injEq, and_true] at e'
            obtain ⟨rfl, rfl⟩ := e'
            obtain ⟨y, hy⟩ : ∃ y, rwA l j = y := ⟨_, rfl⟩
            have HY : Hid (rwA l j = y) := hy
            rw [hy] at d0
            clear hy hs d1
            have hz : (0 : Int) < (((j + 1 : Nat) : Int)) := by omega
            have hj1 : ((j + 1 : Nat) : Int) - 1 = (j : Int) := by omega
            have D0 : ∀ o, (wr.alloc o).cell? ⟨b, off + j * 2, none⟩ = some (.int .i64 y.epoch) := fun o => (World.cell?_alloc_old wr o ⟨b, off + j * 2, none⟩ (by simp; omega)).trans d0
            by_cases h3 : x.epoch < y.epoch
            · go_wp2_with fail
              go_quiet (first | (go_at_call_of 17 (Value.int .i64 x.epoch); exact Calls.quiet_of_same (l1In_c _ _ _ _ _ h1)) | (go_at_call 17; exact Calls.quiet_of_same (l1In_c _ _ _ _ _ h2)))
              go_wp2
              go_ret
              exact ⟨ret_bool (rlogB_bad hlt (fun h => by unfold rwOk at h; rw [HX.out] at h; have := h.2.2 (by omega); simp only [Nat.add_sub_cancel] at this; rw [HY.out] at this; omega)).symm, below_drewN (hBn _) nq⟩
            · go_wp2_with fail
              go_quiet (first | (go_at_call_of 17 (Value.int .i64 x.epoch); exact Calls.quiet_of_same (l1In_c _ _ _ _ _ h1)) | (go_at_call 17; exact Calls.quiet_of_same (l1In_c _ _ _ _ _ h2)))
              go_wp2
              go_roundw
              case rel => exact ⟨j + 1 + 1, by omega, by go_num, rwTo_succ HO.out (by unfold rwOk; rw [HX.out]; refine ⟨h1, h2, fun h => ?_⟩; simp only [Nat.add_sub_cancel]; rw [HY.out]; omega), below_drewN (hBn _) nq⟩
              case measure => simp [intOf]; omega
    · obtain rfl : k = l.length := by omega
      have HE : Hid (rlogB l epoch = decide (l.length ≤ 30)) := rlogB_len HO.out
      go_wp2
      go_ret
      refine ⟨ret_bool ?_, hB⟩
      rw [HE.out]
      by_cases hmx : l.length ≤ 30
      · simp [hmx]; omega
      · simp [hmx]; omega

theorem l11Log_c (a : Option Addr) (c : Nat) (l : List Rw) (epoch : Int) (b : Bool) (w : World) (hs : Rws w a l) (hl : l.length ≤ maxLen) (h : rlogB l epoch = b) :
    Calls Tryd.prog 53 #[.slice a l.length c, .int .i64 epoch] w fun e w' => e = .returned (.bool b) ∧ Below w.heap.size w w' := by
  rw [← h]; exact l11Log_any a c l epoch w hs hl

theorem rwEq_run (e s e2 s2 : Int) (w : World) : (binOp .eql 81 (.agg #[.int .i64 e, .int .i64 s]) (.agg #[.int .i64 e2, .int .i64 s2])).run Tryd.prog w = .ok (.bool (decide (e = e2) && decide (s = s2))) w := by
  rw [run_eql_struct, show (10000 : Nat) = 9999 + 1 from rfl, run_equalIn_agg w 9999 81 _ _ (by kernel_rfl) (by kernel_rfl)]
  have u3 := Tryd.underlying3
  simp only [Program.fieldsOf, Tryd.underlying81]
  by_cases h1 : e = e2
  · by_cases h2 : s = s2
    · simp [Op.eqFields, part, isAgg, run_underlying u3, run_equalIn_int w _ 3 .i64 .i64 _ _ u3, h1, h2]
    · simp [Op.eqFields, part, isAgg, run_underlying u3, run_equalIn_int w _ 3 .i64 .i64 _ _ u3, h1, h2]
  · simp [Op.eqFields, part, isAgg, run_underlying u3, run_equalIn_int w _ 3 .i64 .i64 _ _ u3, h1]
theorem rwGuard : Tryd.prog.eqGuardType Tryd.prog.depth 81 = false := by kernel_rfl
theorem rwDec {x y : Rw} (h : x ≠ y) : (decide (x.epoch = y.epoch) && decide (x.val = y.val)) = false := by
  rw [Bool.and_eq_false_iff, decide_eq_false_iff_not, decide_eq_false_iff_not]
  by_cases h1 : x.epoch = y.epoch
  · exact .inr (fun h2 => h (by cases x; cases y; simp_all))
  · exact .inl h1

set_option maxRecDepth 100000 in
set_option maxHeartbeats 4000000 in
theorem l11Same_any (a a2 : Option Addr) (c c2 : Nat) (xs ys : List Rw) (w : World) (hx : Rws w a xs) (hy : Rws w a2 ys) (hl : xs.length ≤ maxLen) :
    Calls Tryd.prog 68 #[.slice a xs.length c, .slice a2 ys.length c2] w fun e w' => e = .returned (.int .i64 (sameN xs ys : Int)) ∧ ∃ m, w' = w.drewN m := by
  have hgd := rwGuard
  unfold maxLen at hl
  go_enter Tryd.func68, Tryd.ntmps68
  go_wp2
  go_loopw [5] (fun i wr => ∃ k m : Nat, k ≤ xs.length ∧ k ≤ ys.length ∧ i = .int .i64 k ∧ Hid (sameN xs ys = k + sameN (xs.drop k) (ys.drop k)) ∧ wr = w.drewN m) (fun i _ => xs.length - (intOf i).toNat)
  case atStart => exact ⟨0, 0, Nat.zero_le _, Nat.zero_le _, rfl, by show _ = _; simp, rfl⟩
  case round =>
    obtain ⟨k, m, hk, hk2, rfl, HS, rfl⟩ := hrel
    by_cases hlt : k < xs.length
    · obtain ⟨x, hkx⟩ := getRw hlt
      obtain ⟨kb, ob, rfl, x0, x1⟩ := hx k x hkx
      have hki : (k : Int) < (xs.length : Int) := by omega
      by_cases hlt2 : k < ys.length
      · obtain ⟨y, hky⟩ := getRw hlt2
        obtain ⟨kb2, ob2, rfl, y0, y1⟩ := hy k y hky
        have hkj : (k : Int) < (ys.length : Int) := by omega
        have hse := rwEq_run x.epoch x.val y.epoch y.val
        by_cases hxy : x = y
        · subst hxy
          have HN : Hid (sameN xs ys = (k + 1) + sameN (xs.drop (k + 1)) (ys.drop (k + 1))) := by show _ = _; rw [HS.out, same_step hkx hky]; omega
          rw [show (decide (x.epoch = x.epoch) && decide (x.val = x.val)) = true by simp] at hse
          clear hx hy hkx hky HS
          go_wp2_with fail
          go_quiet (fail)
          go_wp2
          go_roundw
          case rel => exact ⟨k + 1, m + nq, by omega, by omega, by go_num, HN.out, by simp⟩
          case measure => simp [intOf]; omega
        · have HN : Hid (sameN xs ys = k) := by show _ = _; rw [HS.out, same_stop hkx hky hxy]; rfl
          rw [rwDec hxy] at hse
          clear hx hy hkx hky HS hxy
          go_wp2_with fail
          go_quiet (fail)
          go_wp2
          go_ret
          exact ⟨ret_int (by rw [HN.out]), m + nq, by simp⟩
      · have HN : Hid (sameN xs ys = k) := by show _ = _; rw [HS.out, same_end2 (by omega)]; rfl
        have hkj : (ys.length : Int) ≤ (k : Int) := by omega
        clear hx hy hkx HS
        go_wp2_with fail
        go_quiet (fail)
        go_wp2
        go_ret
        exact ⟨ret_int (by rw [HN.out]), m + nq, by simp⟩
    · have HN : Hid (sameN xs ys = k) := by show _ = _; rw [HS.out, same_end1 (by omega)]; rfl
      have hkj : (xs.length : Int) ≤ (k : Int) := by omega
      clear hx hy HS
      go_wp2_with fail
      go_quiet (fail)
      go_wp2
      go_ret
      exact ⟨ret_int (by rw [HN.out]), m + nq, by simp⟩

theorem l11Same_c (a a2 : Option Addr) (c c2 : Nat) (xs ys : List Rw) (n : Nat) (w : World) (hx : Rws w a xs) (hy : Rws w a2 ys) (hl : xs.length ≤ maxLen) (h : sameN xs ys = n) :
    Calls Tryd.prog 68 #[.slice a xs.length c, .slice a2 ys.length c2] w fun e w' => e = .returned (.int .i64 (n : Int)) ∧ ∃ m, w' = w.drewN m := by
  rw [← h]; exact l11Same_any a a2 c c2 xs ys w hx hy hl

end Go.Proofs.YtekjpbfmiebigaaDoor
