/-
  Rafts, the specification's side: l10Log, l10There, l10Peer. Made by mkras.py.
-/
import Derived.Test.YtglncbhbeikclaaRaM
import Derived.Deep.RegionHeld3
import Derived.WalkMore
namespace Go.Proofs.Ytglncbhbeikclaa
open Go.RowKit

theorem l1In_c (n lo hi : Int) (b : Bool) (w : World) (h : inB n lo hi = b) : Calls Try.prog 35 #[.int .i64 n, .int .i64 lo, .int .i64 hi] w fun e w' => e = .returned (.bool b) ∧ w' = w := by
  rw [← h]; exact l1In_any n lo hi w

set_option maxRecDepth 100000 in
set_option maxHeartbeats 4000000 in
theorem l10Log_any (a : Option Addr) (c : Nat) (l : List En) (term : Int) (w : World) (hs : Ens w a l) (hl : l.length ≤ maxLen) :
    Calls Try.prog 56 #[.slice a l.length c, .int .i64 term] w fun e w' => e = .returned (.bool (logB l term)) ∧ Below w.heap.size w w' := by
  unfold maxLen at hl
  go_enter Try.func56, Try.ntmps56
  go_wp2
  go_loopw [9] (fun i wr => ∃ k : Nat, k ≤ l.length ∧ i = .int .i64 k ∧ Hid (enTo l term k) ∧ Below w.heap.size w wr) (fun i _ => l.length - (intOf i).toNat)
  case atStart => exact ⟨0, Nat.zero_le _, rfl, (fun i hi => absurd hi (Nat.not_lt_zero _)), Below.refl _ _⟩
  case round =>
    obtain ⟨k, hk, rfl, HO, hB⟩ := hrel
    by_cases hlt : k < l.length
    · obtain ⟨b, off, rfl, c0, c1⟩ := (hs.below hB) k _ (enA_get hlt)
      have hBn : ∀ o, Below w.heap.size w (wr.alloc o) := fun o => hB.alloc hB.size o
      obtain ⟨x, hx⟩ : ∃ x, enA l k = x := ⟨_, rfl⟩
      have HX : Hid (enA l k = x) := hx
      rw [hx] at c0 c1
      clear hx
      have lb := lt_of_cell c0
      cases h1 : inB x.term 0 term with
      | false =>
        clear hs
        go_wp2_with fail
        go_quiet ((go_at_call 35; exact Calls.quiet_of_same (l1In_c _ _ _ _ _ h1)))
        go_wp2
        go_ret
        exact ⟨ret_bool (logB_bad hlt (fun h => by unfold enOk at h; rw [HX.out] at h; have := h.1; rw [h1] at this; cases this)).symm, below_drewN (hBn _) nq⟩
      | true =>
        cases h2 : inB x.val 0 99 with
        | false =>
          clear hs
          go_wp2_with fail
          go_quiet (first | (go_at_call_of 35 (Value.int .i64 x.term); exact Calls.quiet_of_same (l1In_c _ _ _ _ _ h1)) | (go_at_call 35; exact Calls.quiet_of_same (l1In_c _ _ _ _ _ h2)))
          go_wp2
          go_ret
          exact ⟨ret_bool (logB_bad hlt (fun h => by unfold enOk at h; rw [HX.out] at h; have := h.2.1; rw [h2] at this; cases this)).symm, below_drewN (hBn _) nq⟩
        | true =>
          rcases Nat.eq_zero_or_pos k with h0 | h0
          · subst h0
            simp only [Nat.zero_mul, Nat.add_zero] at c0 c1
            clear hs
            go_wp2_with fail
            go_quiet (first | (go_at_call_of 35 (Value.int .i64 x.term); exact Calls.quiet_of_same (l1In_c _ _ _ _ _ h1)) | (go_at_call 35; exact Calls.quiet_of_same (l1In_c _ _ _ _ _ h2)))
            go_wp2
            go_roundw
            case rel => exact ⟨1, by omega, rfl, enTo_succ HO.out (by unfold enOk; rw [HX.out]; exact ⟨h1, h2, fun h => absurd h (Nat.lt_irrefl _)⟩), below_drewN (hBn _) nq⟩
            case measure => simp [intOf]; omega
          · obtain ⟨j, rfl⟩ : ∃ j, k = j + 1 := ⟨k - 1, by omega⟩
            obtain ⟨b', off', e', d0, d1⟩ := (hs.below hB) j _ (enA_get (by omega))
            simp only [Option.some.injEq, Addr.mk.injEq, and_true] at e'
            obtain ⟨rfl, rfl⟩ := e'
            obtain ⟨y, hy⟩ : ∃ y, enA l j = y := ⟨_, rfl⟩
            have HY : Hid (enA l j = y) := hy
            rw [hy] at d0
            clear hy hs d1
            have hz : (0 : Int) < (((j + 1 : Nat) : Int)) := by omega
            have hj1 : ((j + 1 : Nat) : Int) - 1 = (j : Int) := by omega
            have D0 : ∀ o, (wr.alloc o).cell? ⟨b, off + j * 2, none⟩ = some (.int .i64 y.term) := fun o => (World.cell?_alloc_old wr o ⟨b, off + j * 2, none⟩ (by simp; omega)).trans d0
            by_cases h3 : x.term < y.term
            · go_wp2_with fail
              go_quiet (first | (go_at_call_of 35 (Value.int .i64 x.term); exact Calls.quiet_of_same (l1In_c _ _ _ _ _ h1)) | (go_at_call 35; exact Calls.quiet_of_same (l1In_c _ _ _ _ _ h2)))
              go_wp2
              go_ret
              exact ⟨ret_bool (logB_bad hlt (fun h => by unfold enOk at h; rw [HX.out] at h; have := h.2.2 (by omega); simp only [Nat.add_sub_cancel] at this; rw [HY.out] at this; omega)).symm, below_drewN (hBn _) nq⟩
            · go_wp2_with fail
              go_quiet (first | (go_at_call_of 35 (Value.int .i64 x.term); exact Calls.quiet_of_same (l1In_c _ _ _ _ _ h1)) | (go_at_call 35; exact Calls.quiet_of_same (l1In_c _ _ _ _ _ h2)))
              go_wp2
              go_roundw
              case rel => exact ⟨j + 1 + 1, by omega, by go_num, enTo_succ HO.out (by unfold enOk; rw [HX.out]; refine ⟨h1, h2, fun h => ?_⟩; simp only [Nat.add_sub_cancel]; rw [HY.out]; omega), below_drewN (hBn _) nq⟩
              case measure => simp [intOf]; omega
    · obtain rfl : k = l.length := by omega
      have HE : Hid (logB l term = decide (l.length ≤ 30)) := logB_len HO.out
      go_wp2
      go_ret
      refine ⟨ret_bool ?_, hB⟩
      rw [HE.out]
      by_cases h30 : l.length ≤ 30
      · simp [h30]; omega
      · simp [h30]; omega

theorem l10Log_c (a : Option Addr) (c : Nat) (l : List En) (term : Int) (b : Bool) (w : World) (hs : Ens w a l) (hl : l.length ≤ maxLen) (h : logB l term = b) :
    Calls Try.prog 56 #[.slice a l.length c, .int .i64 term] w fun e w' => e = .returned (.bool b) ∧ Below w.heap.size w w' := by
  rw [← h]; exact l10Log_any a c l term w hs hl

theorem l10There_any (s : Ra) (a0 a1 : Option Addr) (c0 c1 : Nat) (k : Int) (b : Bool) (w : World) (h : thB s.prs.length k = b) :
    Calls Try.prog 60 #[raV s a0 c0 a1 c1, .int .i64 k] w fun e w' => e = .returned (.bool b) ∧ ∃ o, w' = w.alloc o := by
  by_cases h1 : 0 ≤ k
  · by_cases h2 : k < (s.prs.length : Int)
    · have E : Hid (b = true) := by show _ = _; rw [← h]; exact thB_t.2 ⟨h1, h2⟩
      clear h
      go_enter Try.func60, Try.ntmps60
      go_wp2
      go_ret
      exact ⟨ret_bool E.out.symm, _, rfl⟩
    · have E : Hid (b = false) := by show _ = _; rw [← h]; exact thB_f.2 (fun g => h2 g.2)
      clear h
      go_enter Try.func60, Try.ntmps60
      go_wp2
      go_ret
      exact ⟨ret_bool E.out.symm, _, rfl⟩
  · have E : Hid (b = false) := by show _ = _; rw [← h]; exact thB_f.2 (fun g => h1 g.1)
    clear h
    go_enter Try.func60, Try.ntmps60
    go_wp2
    go_ret
    exact ⟨ret_bool E.out.symm, _, rfl⟩

theorem l10There_q (s : Ra) (a0 a1 : Option Addr) (c0 c1 : Nat) (k : Int) (b : Bool) (w : World) (h : thB s.prs.length k = b) :
    Calls Try.prog 60 #[raV s a0 c0 a1 c1, .int .i64 k] w fun e w' => e = .returned (.bool b) ∧ Below w.heap.size w w' :=
  (l10There_any s a0 a1 c0 c1 k b w h).mono fun _ _ ⟨h1, o, h2⟩ => ⟨h1, by rw [h2]; exact alRa _ _⟩

set_option maxRecDepth 100000 in
set_option maxHeartbeats 8000000 in
theorem l10Peer_any (s : Ra) (a0 a1 : Option Addr) (c0 c1 : Nat) (p : Pe) (r2 r4 : Option Addr) (k2 k4 : Nat) (w : World) (q2 : Ens w r2 p.log) (m2 : p.log.length ≤ maxLen) (q4 : Ints w r4 p.mat) (m4 : p.mat.length ≤ maxLen) :
    Calls Try.prog 45 #[raV s a0 c0 a1 c1, .agg #[.int .i64 p.term, .bool p.leads, .slice r2 p.log.length k2, .int .i64 p.commit, .slice r4 p.mat.length k4]] w fun e w' => e = .returned (.bool (okPe s.prs.length p)) ∧ Below w.heap.size w w' := by
  have HB : ∀ x y, Below w.heap.size w ((w.alloc x).alloc y) := fun _ _ => ((Below.refl _ _).alloc (Nat.le_refl _) _).alloc (by simp) _
  have hm2 := m2
  have hm4 := m4
  unfold maxLen at hm2 hm4
  cases h1 : inB p.term 0 100 with
  | false =>
    have HE : Hid (okPe s.prs.length p = false) := by show _ = _; simp [okPe, h1]
    go_enter Try.func45, Try.ntmps45
    go_wp2_with (go_at_call 35; refine (l1In_c _ _ _ _ _ h1).mono ?_; rintro e w' ⟨rfl, rfl⟩)
    go_ret
    exact ⟨ret_bool HE.out.symm, HB _ _⟩
  | true =>
    cases h2 : logB p.log p.term with
    | false =>
      have HE : Hid (okPe s.prs.length p = false) := by show _ = _; simp [okPe, h2]
      go_enter Try.func45, Try.ntmps45
      go_wp2_with (go_at_call 35; refine (l1In_c _ _ _ _ _ h1).mono ?_; rintro e w' ⟨rfl, rfl⟩)
      refine (l10Log_c _ _ _ _ _ _ (q2.below (HB _ _)) m2 h2).mono ?_
      rintro r w1 ⟨rfl, hB⟩
      have BB := stRa (HB _ _) hB
      have e0 : w1.cell? ⟨w.heap.size + 1, 0, none⟩ = some (.int .i64 p.term) := celB hB (by simp [go_sem])
      have e1 : w1.cell? ⟨w.heap.size + 1, 1, none⟩ = some (.bool p.leads) := celB hB (by simp [go_sem])
      have e2 : w1.cell? ⟨w.heap.size + 1, 2, none⟩ = some (.slice r2 p.log.length k2) := celB hB (by simp [go_sem])
      have e3 : w1.cell? ⟨w.heap.size + 1, 3, none⟩ = some (.int .i64 p.commit) := celB hB (by simp [go_sem])
      have e4 : w1.cell? ⟨w.heap.size + 1, 4, none⟩ = some (.slice r4 p.mat.length k4) := celB hB (by simp [go_sem])
      have n0 : w1.cell? ⟨w.heap.size, 0, none⟩ = some (.slice a0 s.prs.length c0) := celB hB (by simp [go_sem])
      clear hB
      go_wp2
      go_ret
      exact ⟨ret_bool HE.out.symm, BB⟩
    | true =>
      by_cases h3 : p.commit < 0
      · have HE : Hid (okPe s.prs.length p = false) := by show _ = _; simp [okPe, show ¬ 0 ≤ p.commit by omega]
        go_enter Try.func45, Try.ntmps45
        go_wp2_with (go_at_call 35; refine (l1In_c _ _ _ _ _ h1).mono ?_; rintro e w' ⟨rfl, rfl⟩)
        refine (l10Log_c _ _ _ _ _ _ (q2.below (HB _ _)) m2 h2).mono ?_
        rintro r w1 ⟨rfl, hB⟩
        have BB := stRa (HB _ _) hB
        have e0 : w1.cell? ⟨w.heap.size + 1, 0, none⟩ = some (.int .i64 p.term) := celB hB (by simp [go_sem])
        have e1 : w1.cell? ⟨w.heap.size + 1, 1, none⟩ = some (.bool p.leads) := celB hB (by simp [go_sem])
        have e2 : w1.cell? ⟨w.heap.size + 1, 2, none⟩ = some (.slice r2 p.log.length k2) := celB hB (by simp [go_sem])
        have e3 : w1.cell? ⟨w.heap.size + 1, 3, none⟩ = some (.int .i64 p.commit) := celB hB (by simp [go_sem])
        have e4 : w1.cell? ⟨w.heap.size + 1, 4, none⟩ = some (.slice r4 p.mat.length k4) := celB hB (by simp [go_sem])
        have n0 : w1.cell? ⟨w.heap.size, 0, none⟩ = some (.slice a0 s.prs.length c0) := celB hB (by simp [go_sem])
        clear hB
        go_wp2
        go_ret
        exact ⟨ret_bool HE.out.symm, BB⟩
      by_cases h4 : (p.log.length : Int) < p.commit
      · have HE : Hid (okPe s.prs.length p = false) := by show _ = _; simp [okPe, show ¬ p.commit ≤ (p.log.length : Int) by omega]
        go_enter Try.func45, Try.ntmps45
        go_wp2_with (go_at_call 35; refine (l1In_c _ _ _ _ _ h1).mono ?_; rintro e w' ⟨rfl, rfl⟩)
        refine (l10Log_c _ _ _ _ _ _ (q2.below (HB _ _)) m2 h2).mono ?_
        rintro r w1 ⟨rfl, hB⟩
        have BB := stRa (HB _ _) hB
        have e0 : w1.cell? ⟨w.heap.size + 1, 0, none⟩ = some (.int .i64 p.term) := celB hB (by simp [go_sem])
        have e1 : w1.cell? ⟨w.heap.size + 1, 1, none⟩ = some (.bool p.leads) := celB hB (by simp [go_sem])
        have e2 : w1.cell? ⟨w.heap.size + 1, 2, none⟩ = some (.slice r2 p.log.length k2) := celB hB (by simp [go_sem])
        have e3 : w1.cell? ⟨w.heap.size + 1, 3, none⟩ = some (.int .i64 p.commit) := celB hB (by simp [go_sem])
        have e4 : w1.cell? ⟨w.heap.size + 1, 4, none⟩ = some (.slice r4 p.mat.length k4) := celB hB (by simp [go_sem])
        have n0 : w1.cell? ⟨w.heap.size, 0, none⟩ = some (.slice a0 s.prs.length c0) := celB hB (by simp [go_sem])
        clear hB
        go_wp2
        go_ret
        exact ⟨ret_bool HE.out.symm, BB⟩
      by_cases h5 : ¬ (p.mat.length = s.prs.length)
      · have d5 : (((p.mat.length : Nat) : Int) != ((s.prs.length : Nat) : Int)) = true := by simp; omega
        have HE : Hid (okPe s.prs.length p = false) := by show _ = _; simp [okPe, h5]
        clear h5
        go_enter Try.func45, Try.ntmps45
        go_wp2_with (go_at_call 35; refine (l1In_c _ _ _ _ _ h1).mono ?_; rintro e w' ⟨rfl, rfl⟩)
        refine (l10Log_c _ _ _ _ _ _ (q2.below (HB _ _)) m2 h2).mono ?_
        rintro r w1 ⟨rfl, hB⟩
        have BB := stRa (HB _ _) hB
        have e0 : w1.cell? ⟨w.heap.size + 1, 0, none⟩ = some (.int .i64 p.term) := celB hB (by simp [go_sem])
        have e1 : w1.cell? ⟨w.heap.size + 1, 1, none⟩ = some (.bool p.leads) := celB hB (by simp [go_sem])
        have e2 : w1.cell? ⟨w.heap.size + 1, 2, none⟩ = some (.slice r2 p.log.length k2) := celB hB (by simp [go_sem])
        have e3 : w1.cell? ⟨w.heap.size + 1, 3, none⟩ = some (.int .i64 p.commit) := celB hB (by simp [go_sem])
        have e4 : w1.cell? ⟨w.heap.size + 1, 4, none⟩ = some (.slice r4 p.mat.length k4) := celB hB (by simp [go_sem])
        have n0 : w1.cell? ⟨w.heap.size, 0, none⟩ = some (.slice a0 s.prs.length c0) := celB hB (by simp [go_sem])
        clear hB
        go_wp2
        go_ret
        exact ⟨ret_bool HE.out.symm, BB⟩
      replace h5 : p.mat.length = s.prs.length := Decidable.of_not_not h5
      have d5 : (((p.mat.length : Nat) : Int) != ((s.prs.length : Nat) : Int)) = false := by simp; omega
      have HA : Hid (okPe s.prs.length p = p.mat.all (okMt p.log.length p.leads)) := by show _ = _; simp only [okPe, h1, h2, decide_eq_true (show 0 ≤ p.commit by omega), decide_eq_true (show p.commit ≤ (p.log.length : Int) by omega), decide_eq_true h5, Bool.true_and]
      clear h5
      go_enter Try.func45, Try.ntmps45
      go_wp2_with (go_at_call 35; refine (l1In_c _ _ _ _ _ h1).mono ?_; rintro e w' ⟨rfl, rfl⟩)
      refine (l10Log_c _ _ _ _ _ _ (q2.below (HB _ _)) m2 h2).mono ?_
      rintro r w1 ⟨rfl, hB⟩
      have BB := stRa (HB _ _) hB
      have e0 : w1.cell? ⟨w.heap.size + 1, 0, none⟩ = some (.int .i64 p.term) := celB hB (by simp [go_sem])
      have e1 : w1.cell? ⟨w.heap.size + 1, 1, none⟩ = some (.bool p.leads) := celB hB (by simp [go_sem])
      have e2 : w1.cell? ⟨w.heap.size + 1, 2, none⟩ = some (.slice r2 p.log.length k2) := celB hB (by simp [go_sem])
      have e3 : w1.cell? ⟨w.heap.size + 1, 3, none⟩ = some (.int .i64 p.commit) := celB hB (by simp [go_sem])
      have e4 : w1.cell? ⟨w.heap.size + 1, 4, none⟩ = some (.slice r4 p.mat.length k4) := celB hB (by simp [go_sem])
      have n0 : w1.cell? ⟨w.heap.size, 0, none⟩ = some (.slice a0 s.prs.length c0) := celB hB (by simp [go_sem])
      clear hB
      go_wp2
      go_loop [44] (fun i => ∃ k : Nat, k ≤ p.mat.length ∧ i = .int .i64 k ∧ Hid (allTo (okMt p.log.length p.leads) p.mat k)) (fun i => p.mat.length - (intOf i).toNat)
      case atStart => exact ⟨0, Nat.zero_le _, rfl, allTo_zero _ _⟩
      case round =>
        obtain ⟨k, hk, rfl, HO⟩ := hrel
        by_cases hlt : k < p.mat.length
        · obtain ⟨b, off, rfl, hc⟩ := (q4.below BB) k _ (zA_get hlt)
          obtain ⟨z, hz⟩ : ∃ z, zA p.mat k = z := ⟨_, rfl⟩
          have HK : Hid (p.mat[k]? = some z) := by show _ = _; rw [zA_get hlt, hz]
          rw [hz] at hc
          have hki : (k : Int) < (p.mat.length : Int) := by omega
          clear hz
          by_cases g1 : z < 0
          · have HE : Hid (okPe s.prs.length p = false) := by show _ = _; rw [HA.out]; exact all_bad HK.out (by simp [okMt, show ¬ 0 ≤ z by omega])
            go_wp2
            go_ret
            exact ⟨ret_bool HE.out.symm, BB⟩
          by_cases g2 : (p.log.length : Int) < z
          · have HE : Hid (okPe s.prs.length p = false) := by show _ = _; rw [HA.out]; exact all_bad HK.out (by simp [okMt, show ¬ z ≤ (p.log.length : Int) by omega])
            go_wp2
            go_ret
            exact ⟨ret_bool HE.out.symm, BB⟩
          have g1' : 0 ≤ z := by omega
          have g2' : z ≤ (p.log.length : Int) := by omega
          cases hld : p.leads with
          | true =>
            rw [hld] at e1
            have HN : Hid (allTo (okMt p.log.length p.leads) p.mat (k + 1)) := allTo_succ HO.out HK.out (by simp [okMt, g1', g2', hld])
            go_wp2
            go_round
            case rel => exact ⟨k + 1, by omega, by go_num, by first | exact HN.out | (have h9 := HN.out; rw [hld] at h9; exact h9)⟩
            case measure => simp [intOf]; omega
          | false =>
            rw [hld] at e1
            by_cases g3 : z = 0
            · have d3 : (z != 0) = false := by simp [g3]
              have HN : Hid (allTo (okMt p.log.length p.leads) p.mat (k + 1)) := allTo_succ HO.out HK.out (by simp [okMt, hld, g3])
              clear g3
              go_wp2
              go_round
              case rel => exact ⟨k + 1, by omega, by go_num, by first | exact HN.out | (have h9 := HN.out; rw [hld] at h9; exact h9)⟩
              case measure => simp [intOf]; omega
            · have d3 : (z != 0) = true := by simp [g3]
              have HE : Hid (okPe s.prs.length p = false) := by show _ = _; rw [HA.out]; exact all_bad HK.out (by simp [okMt, hld, g3])
              clear g3
              go_wp2
              go_ret
              exact ⟨ret_bool HE.out.symm, BB⟩
        · obtain rfl : k = p.mat.length := by omega
          have HE : Hid (okPe s.prs.length p = true) := by show _ = _; rw [HA.out]; exact all_done HO.out
          clear HO
          go_wp2
          go_ret
          exact ⟨ret_bool HE.out.symm, BB⟩

end Go.Proofs.Ytglncbhbeikclaa
