/-
  Rafts, the program's side: peers, and all of them. Made by mkrai.py.
-/
import Derived.Test.YtglncbhbeikclaaRaI1
namespace Go.Proofs.Ytglncbhbeikclaa
open Go.RowKit

set_option maxRecDepth 100000 in
set_option maxHeartbeats 4000000 in
theorem allWithin_any (hi : Int) (a : Option Addr) (c : Nat) (zs : List Int) (w : World) (hs : Ints w a zs) (hl : zs.length ≤ maxLen) :
    Calls Try.prog 68 #[.slice a zs.length c, .int .i64 hi] w fun r w' => r = .returned (.bool (zs.all (fun m => inB m 0 hi))) ∧ w' = w := by
  unfold maxLen at hl
  go_enter Try.func68, Try.ntmps68
  go_wp2
  go_loop [9] (fun i => ∃ k : Nat, k ≤ zs.length ∧ i = .int .i64 k ∧ Hid (allTo (fun m => inB m 0 hi) zs k)) (fun i => zs.length - (intOf i).toNat)
  case atStart => exact ⟨0, Nat.zero_le _, rfl, allTo_zero _ _⟩
  case round =>
    obtain ⟨k, hk, rfl, HO⟩ := hrel
    by_cases hlt : k < zs.length
    · obtain ⟨b, off, rfl, hc⟩ := hs k _ (zA_get hlt)
      have HK : Hid (zs[k]? = some (zA zs k)) := zA_get hlt
      clear hs
      cases g : inB (zA zs k) 0 hi with
      | true =>
        have HN : Hid (allTo (fun m => inB m 0 hi) zs (k + 1)) := allTo_succ HO.out HK.out g
        go_wp2_with (go_at_call 61; refine (within_c _ _ _ _ (by first | exact g)).mono ?_; rintro e w' ⟨rfl, rfl⟩)
        go_round
        case rel => exact ⟨k + 1, by omega, by go_num, HN.out⟩
        case measure => simp [intOf]; omega
      | false =>
        have HE : Hid (zs.all (fun m => inB m 0 hi) = false) := all_bad HK.out g
        go_wp2_with (go_at_call 61; refine (within_c _ _ _ _ (by first | exact g)).mono ?_; rintro e w' ⟨rfl, rfl⟩)
        go_ret
        exact ⟨ret_bool HE.out.symm, rfl⟩
    · obtain rfl : k = zs.length := by omega
      have HE : Hid (zs.all (fun m => inB m 0 hi) = true) := all_done HO.out
      go_wp2
      go_ret
      exact ⟨ret_bool HE.out.symm, rfl⟩

theorem allWithin_c (hi : Int) (a : Option Addr) (c : Nat) (zs : List Int) (w : World) (hs : Ints w a zs) (hl : zs.length ≤ maxLen) (b : Bool) (h : zs.all (fun m => inB m 0 hi) = b) :
    Calls Try.prog 68 #[.slice a zs.length c, .int .i64 hi] w fun r w' => r = .returned (.bool b) ∧ w' = w := by
  rw [← h]; exact allWithin_any hi a c zs w hs hl

theorem okPe_l {n : Nat} {p : Pe} (h : p.leads = true) : okPe n p = (inB p.term 0 100 && (logB p.log p.term && (inB p.commit 0 (p.log.length : Int) && (decide (p.mat.length = n) && p.mat.all (fun m => inB m 0 (p.log.length : Int)))))) := by
  rw [okPe_is]; unfold matB mostM; rw [if_pos h]
theorem okPe_n {n : Nat} {p : Pe} (h : p.leads = false) : okPe n p = (inB p.term 0 100 && (logB p.log p.term && (inB p.commit 0 (p.log.length : Int) && (decide (p.mat.length = n) && p.mat.all (fun m => inB m 0 0))))) := by
  rw [okPe_is]; unfold matB mostM; rw [if_neg (by simp [h])]

set_option maxRecDepth 100000 in
set_option maxHeartbeats 4000000 in
theorem goodPeer_any (p : Pe) (r2 r4 : Option Addr) (k2 k4 n : Nat) (w : World) (h2 : Ens w r2 p.log) (l2 : p.log.length ≤ maxLen) (h4 : Ints w r4 p.mat) (l4 : p.mat.length ≤ maxLen) :
    Calls Try.prog 51 #[peV p r2 k2 r4 k4, .int .i64 (n : Int)] w fun r w' => r = .returned (.bool (okPe n p)) ∧ Below w.heap.size w w' := by
  have l2' := l2
  have l4' := l4
  unfold maxLen at l2' l4'
  have HB : ∀ o, Below w.heap.size w (w.alloc o) := fun o => alRa w o
  cases h0 : p.leads with
  | true =>
    cases g1 : inB p.term 0 100 with
    | false =>
      have HE : Hid (okPe n p = false) := by show _ = _; rw [okPe_l h0, g1]; simp
      rw [HE.out]
      unfold peV
      rw [h0]
      go_enter Try.func51, Try.ntmps51
      go_wp2_with (first | (go_at_call 61; refine (within_c _ _ _ _ (by first | exact g1 | exact g3)).mono ?_; rintro e w' ⟨rfl, rfl⟩) | (go_at_call 58; refine (goodRaftLog_c _ _ _ _ _ (h2.below (HB _)) l2 _ g2).mono ?_; rintro r w1 ⟨rfl, hB1⟩; have BB := stRa (HB _) hB1; have q0 : w1.cell? ⟨w.heap.size, 0, none⟩ = some (.int .i64 p.term) := celB hB1 (by simp [go_sem]); have q2 : w1.cell? ⟨w.heap.size, 2, none⟩ = some (.slice r2 p.log.length k2) := celB hB1 (by simp [go_sem]); have q3 : w1.cell? ⟨w.heap.size, 3, none⟩ = some (.int .i64 p.commit) := celB hB1 (by simp [go_sem]); have q4 : w1.cell? ⟨w.heap.size, 4, none⟩ = some (.slice r4 p.mat.length k4) := celB hB1 (by simp [go_sem]); have z4 := h4.below BB; clear hB1) | (go_at_call 68; refine (allWithin_c _ _ _ _ _ z4 l4 _ g5).mono ?_; rintro e w' ⟨rfl, rfl⟩))
      go_ret
      exact ⟨ret_bool rfl, by first | exact BB | exact HB _⟩
    | true =>
      cases g2 : logB p.log p.term with
      | false =>
        have HE : Hid (okPe n p = false) := by show _ = _; rw [okPe_l h0, g1, g2]; simp
        rw [HE.out]
        unfold peV
        rw [h0]
        go_enter Try.func51, Try.ntmps51
        go_wp2_with (first | (go_at_call 61; refine (within_c _ _ _ _ (by first | exact g1 | exact g3)).mono ?_; rintro e w' ⟨rfl, rfl⟩) | (go_at_call 58; refine (goodRaftLog_c _ _ _ _ _ (h2.below (HB _)) l2 _ g2).mono ?_; rintro r w1 ⟨rfl, hB1⟩; have BB := stRa (HB _) hB1; have q0 : w1.cell? ⟨w.heap.size, 0, none⟩ = some (.int .i64 p.term) := celB hB1 (by simp [go_sem]); have q2 : w1.cell? ⟨w.heap.size, 2, none⟩ = some (.slice r2 p.log.length k2) := celB hB1 (by simp [go_sem]); have q3 : w1.cell? ⟨w.heap.size, 3, none⟩ = some (.int .i64 p.commit) := celB hB1 (by simp [go_sem]); have q4 : w1.cell? ⟨w.heap.size, 4, none⟩ = some (.slice r4 p.mat.length k4) := celB hB1 (by simp [go_sem]); have z4 := h4.below BB; clear hB1) | (go_at_call 68; refine (allWithin_c _ _ _ _ _ z4 l4 _ g5).mono ?_; rintro e w' ⟨rfl, rfl⟩))
        go_ret
        exact ⟨ret_bool rfl, by first | exact BB | exact HB _⟩
      | true =>
        cases g3 : inB p.commit 0 (p.log.length : Int) with
        | false =>
          have HE : Hid (okPe n p = false) := by show _ = _; rw [okPe_l h0, g1, g2, g3]; simp
          rw [HE.out]
          unfold peV
          rw [h0]
          go_enter Try.func51, Try.ntmps51
          go_wp2_with (first | (go_at_call 61; refine (within_c _ _ _ _ (by first | exact g1 | exact g3)).mono ?_; rintro e w' ⟨rfl, rfl⟩) | (go_at_call 58; refine (goodRaftLog_c _ _ _ _ _ (h2.below (HB _)) l2 _ g2).mono ?_; rintro r w1 ⟨rfl, hB1⟩; have BB := stRa (HB _) hB1; have q0 : w1.cell? ⟨w.heap.size, 0, none⟩ = some (.int .i64 p.term) := celB hB1 (by simp [go_sem]); have q2 : w1.cell? ⟨w.heap.size, 2, none⟩ = some (.slice r2 p.log.length k2) := celB hB1 (by simp [go_sem]); have q3 : w1.cell? ⟨w.heap.size, 3, none⟩ = some (.int .i64 p.commit) := celB hB1 (by simp [go_sem]); have q4 : w1.cell? ⟨w.heap.size, 4, none⟩ = some (.slice r4 p.mat.length k4) := celB hB1 (by simp [go_sem]); have z4 := h4.below BB; clear hB1) | (go_at_call 68; refine (allWithin_c _ _ _ _ _ z4 l4 _ g5).mono ?_; rintro e w' ⟨rfl, rfl⟩))
          go_ret
          exact ⟨ret_bool rfl, by first | exact BB | exact HB _⟩
        | true =>
          cases g4 : decide (p.mat.length = n) with
          | false =>
            have HE : Hid (okPe n p = false) := by show _ = _; rw [okPe_l h0, g1, g2, g3, g4]; simp
            have g4' : ((p.mat.length : Int) == (n : Int)) = false := by have := of_decide_eq_false g4; simp; omega
            clear g4
            rw [HE.out]
            unfold peV
            rw [h0]
            go_enter Try.func51, Try.ntmps51
            go_wp2_with (first | (go_at_call 61; refine (within_c _ _ _ _ (by first | exact g1 | exact g3)).mono ?_; rintro e w' ⟨rfl, rfl⟩) | (go_at_call 58; refine (goodRaftLog_c _ _ _ _ _ (h2.below (HB _)) l2 _ g2).mono ?_; rintro r w1 ⟨rfl, hB1⟩; have BB := stRa (HB _) hB1; have q0 : w1.cell? ⟨w.heap.size, 0, none⟩ = some (.int .i64 p.term) := celB hB1 (by simp [go_sem]); have q2 : w1.cell? ⟨w.heap.size, 2, none⟩ = some (.slice r2 p.log.length k2) := celB hB1 (by simp [go_sem]); have q3 : w1.cell? ⟨w.heap.size, 3, none⟩ = some (.int .i64 p.commit) := celB hB1 (by simp [go_sem]); have q4 : w1.cell? ⟨w.heap.size, 4, none⟩ = some (.slice r4 p.mat.length k4) := celB hB1 (by simp [go_sem]); have z4 := h4.below BB; clear hB1) | (go_at_call 68; refine (allWithin_c _ _ _ _ _ z4 l4 _ g5).mono ?_; rintro e w' ⟨rfl, rfl⟩))
            go_ret
            exact ⟨ret_bool rfl, by first | exact BB | exact HB _⟩
          | true =>
            cases g5 : p.mat.all (fun m => inB m 0 (p.log.length : Int)) with
            | false =>
              have HE : Hid (okPe n p = false) := by show _ = _; rw [okPe_l h0, g1, g2, g3, g4, g5]; simp
              have g4' : ((p.mat.length : Int) == (n : Int)) = true := by have := of_decide_eq_true g4; simp [this]
              clear g4
              rw [HE.out]
              unfold peV
              rw [h0]
              go_enter Try.func51, Try.ntmps51
              go_wp2_with (first | (go_at_call 61; refine (within_c _ _ _ _ (by first | exact g1 | exact g3)).mono ?_; rintro e w' ⟨rfl, rfl⟩) | (go_at_call 58; refine (goodRaftLog_c _ _ _ _ _ (h2.below (HB _)) l2 _ g2).mono ?_; rintro r w1 ⟨rfl, hB1⟩; have BB := stRa (HB _) hB1; have q0 : w1.cell? ⟨w.heap.size, 0, none⟩ = some (.int .i64 p.term) := celB hB1 (by simp [go_sem]); have q2 : w1.cell? ⟨w.heap.size, 2, none⟩ = some (.slice r2 p.log.length k2) := celB hB1 (by simp [go_sem]); have q3 : w1.cell? ⟨w.heap.size, 3, none⟩ = some (.int .i64 p.commit) := celB hB1 (by simp [go_sem]); have q4 : w1.cell? ⟨w.heap.size, 4, none⟩ = some (.slice r4 p.mat.length k4) := celB hB1 (by simp [go_sem]); have z4 := h4.below BB; clear hB1) | (go_at_call 68; refine (allWithin_c _ _ _ _ _ z4 l4 _ g5).mono ?_; rintro e w' ⟨rfl, rfl⟩))
              go_ret
              exact ⟨ret_bool rfl, by first | exact BB | exact HB _⟩
            | true =>
              have HE : Hid (okPe n p = true) := by show _ = _; rw [okPe_l h0, g1, g2, g3, g4, g5]; simp
              have g4' : ((p.mat.length : Int) == (n : Int)) = true := by have := of_decide_eq_true g4; simp [this]
              clear g4
              rw [HE.out]
              unfold peV
              rw [h0]
              go_enter Try.func51, Try.ntmps51
              go_wp2_with (first | (go_at_call 61; refine (within_c _ _ _ _ (by first | exact g1 | exact g3)).mono ?_; rintro e w' ⟨rfl, rfl⟩) | (go_at_call 58; refine (goodRaftLog_c _ _ _ _ _ (h2.below (HB _)) l2 _ g2).mono ?_; rintro r w1 ⟨rfl, hB1⟩; have BB := stRa (HB _) hB1; have q0 : w1.cell? ⟨w.heap.size, 0, none⟩ = some (.int .i64 p.term) := celB hB1 (by simp [go_sem]); have q2 : w1.cell? ⟨w.heap.size, 2, none⟩ = some (.slice r2 p.log.length k2) := celB hB1 (by simp [go_sem]); have q3 : w1.cell? ⟨w.heap.size, 3, none⟩ = some (.int .i64 p.commit) := celB hB1 (by simp [go_sem]); have q4 : w1.cell? ⟨w.heap.size, 4, none⟩ = some (.slice r4 p.mat.length k4) := celB hB1 (by simp [go_sem]); have z4 := h4.below BB; clear hB1) | (go_at_call 68; refine (allWithin_c _ _ _ _ _ z4 l4 _ g5).mono ?_; rintro e w' ⟨rfl, rfl⟩))
              go_ret
              exact ⟨ret_bool rfl, by first | exact BB | exact HB _⟩
  | false =>
    cases g1 : inB p.term 0 100 with
    | false =>
      have HE : Hid (okPe n p = false) := by show _ = _; rw [okPe_n h0, g1]; simp
      rw [HE.out]
      unfold peV
      rw [h0]
      go_enter Try.func51, Try.ntmps51
      go_wp2_with (first | (go_at_call 61; refine (within_c _ _ _ _ (by first | exact g1 | exact g3)).mono ?_; rintro e w' ⟨rfl, rfl⟩) | (go_at_call 58; refine (goodRaftLog_c _ _ _ _ _ (h2.below (HB _)) l2 _ g2).mono ?_; rintro r w1 ⟨rfl, hB1⟩; have BB := stRa (HB _) hB1; have q0 : w1.cell? ⟨w.heap.size, 0, none⟩ = some (.int .i64 p.term) := celB hB1 (by simp [go_sem]); have q2 : w1.cell? ⟨w.heap.size, 2, none⟩ = some (.slice r2 p.log.length k2) := celB hB1 (by simp [go_sem]); have q3 : w1.cell? ⟨w.heap.size, 3, none⟩ = some (.int .i64 p.commit) := celB hB1 (by simp [go_sem]); have q4 : w1.cell? ⟨w.heap.size, 4, none⟩ = some (.slice r4 p.mat.length k4) := celB hB1 (by simp [go_sem]); have z4 := h4.below BB; clear hB1) | (go_at_call 68; refine (allWithin_c _ _ _ _ _ z4 l4 _ g5).mono ?_; rintro e w' ⟨rfl, rfl⟩))
      go_ret
      exact ⟨ret_bool rfl, by first | exact BB | exact HB _⟩
    | true =>
      cases g2 : logB p.log p.term with
      | false =>
        have HE : Hid (okPe n p = false) := by show _ = _; rw [okPe_n h0, g1, g2]; simp
        rw [HE.out]
        unfold peV
        rw [h0]
        go_enter Try.func51, Try.ntmps51
        go_wp2_with (first | (go_at_call 61; refine (within_c _ _ _ _ (by first | exact g1 | exact g3)).mono ?_; rintro e w' ⟨rfl, rfl⟩) | (go_at_call 58; refine (goodRaftLog_c _ _ _ _ _ (h2.below (HB _)) l2 _ g2).mono ?_; rintro r w1 ⟨rfl, hB1⟩; have BB := stRa (HB _) hB1; have q0 : w1.cell? ⟨w.heap.size, 0, none⟩ = some (.int .i64 p.term) := celB hB1 (by simp [go_sem]); have q2 : w1.cell? ⟨w.heap.size, 2, none⟩ = some (.slice r2 p.log.length k2) := celB hB1 (by simp [go_sem]); have q3 : w1.cell? ⟨w.heap.size, 3, none⟩ = some (.int .i64 p.commit) := celB hB1 (by simp [go_sem]); have q4 : w1.cell? ⟨w.heap.size, 4, none⟩ = some (.slice r4 p.mat.length k4) := celB hB1 (by simp [go_sem]); have z4 := h4.below BB; clear hB1) | (go_at_call 68; refine (allWithin_c _ _ _ _ _ z4 l4 _ g5).mono ?_; rintro e w' ⟨rfl, rfl⟩))
        go_ret
        exact ⟨ret_bool rfl, by first | exact BB | exact HB _⟩
      | true =>
        cases g3 : inB p.commit 0 (p.log.length : Int) with
        | false =>
          have HE : Hid (okPe n p = false) := by show _ = _; rw [okPe_n h0, g1, g2, g3]; simp
          rw [HE.out]
          unfold peV
          rw [h0]
          go_enter Try.func51, Try.ntmps51
          go_wp2_with (first | (go_at_call 61; refine (within_c _ _ _ _ (by first | exact g1 | exact g3)).mono ?_; rintro e w' ⟨rfl, rfl⟩) | (go_at_call 58; refine (goodRaftLog_c _ _ _ _ _ (h2.below (HB _)) l2 _ g2).mono ?_; rintro r w1 ⟨rfl, hB1⟩; have BB := stRa (HB _) hB1; have q0 : w1.cell? ⟨w.heap.size, 0, none⟩ = some (.int .i64 p.term) := celB hB1 (by simp [go_sem]); have q2 : w1.cell? ⟨w.heap.size, 2, none⟩ = some (.slice r2 p.log.length k2) := celB hB1 (by simp [go_sem]); have q3 : w1.cell? ⟨w.heap.size, 3, none⟩ = some (.int .i64 p.commit) := celB hB1 (by simp [go_sem]); have q4 : w1.cell? ⟨w.heap.size, 4, none⟩ = some (.slice r4 p.mat.length k4) := celB hB1 (by simp [go_sem]); have z4 := h4.below BB; clear hB1) | (go_at_call 68; refine (allWithin_c _ _ _ _ _ z4 l4 _ g5).mono ?_; rintro e w' ⟨rfl, rfl⟩))
          go_ret
          exact ⟨ret_bool rfl, by first | exact BB | exact HB _⟩
        | true =>
          cases g4 : decide (p.mat.length = n) with
          | false =>
            have HE : Hid (okPe n p = false) := by show _ = _; rw [okPe_n h0, g1, g2, g3, g4]; simp
            have g4' : ((p.mat.length : Int) == (n : Int)) = false := by have := of_decide_eq_false g4; simp; omega
            clear g4
            rw [HE.out]
            unfold peV
            rw [h0]
            go_enter Try.func51, Try.ntmps51
            go_wp2_with (first | (go_at_call 61; refine (within_c _ _ _ _ (by first | exact g1 | exact g3)).mono ?_; rintro e w' ⟨rfl, rfl⟩) | (go_at_call 58; refine (goodRaftLog_c _ _ _ _ _ (h2.below (HB _)) l2 _ g2).mono ?_; rintro r w1 ⟨rfl, hB1⟩; have BB := stRa (HB _) hB1; have q0 : w1.cell? ⟨w.heap.size, 0, none⟩ = some (.int .i64 p.term) := celB hB1 (by simp [go_sem]); have q2 : w1.cell? ⟨w.heap.size, 2, none⟩ = some (.slice r2 p.log.length k2) := celB hB1 (by simp [go_sem]); have q3 : w1.cell? ⟨w.heap.size, 3, none⟩ = some (.int .i64 p.commit) := celB hB1 (by simp [go_sem]); have q4 : w1.cell? ⟨w.heap.size, 4, none⟩ = some (.slice r4 p.mat.length k4) := celB hB1 (by simp [go_sem]); have z4 := h4.below BB; clear hB1) | (go_at_call 68; refine (allWithin_c _ _ _ _ _ z4 l4 _ g5).mono ?_; rintro e w' ⟨rfl, rfl⟩))
            go_ret
            exact ⟨ret_bool rfl, by first | exact BB | exact HB _⟩
          | true =>
            cases g5 : p.mat.all (fun m => inB m 0 0) with
            | false =>
              have HE : Hid (okPe n p = false) := by show _ = _; rw [okPe_n h0, g1, g2, g3, g4, g5]; simp
              have g4' : ((p.mat.length : Int) == (n : Int)) = true := by have := of_decide_eq_true g4; simp [this]
              clear g4
              rw [HE.out]
              unfold peV
              rw [h0]
              go_enter Try.func51, Try.ntmps51
              go_wp2_with (first | (go_at_call 61; refine (within_c _ _ _ _ (by first | exact g1 | exact g3)).mono ?_; rintro e w' ⟨rfl, rfl⟩) | (go_at_call 58; refine (goodRaftLog_c _ _ _ _ _ (h2.below (HB _)) l2 _ g2).mono ?_; rintro r w1 ⟨rfl, hB1⟩; have BB := stRa (HB _) hB1; have q0 : w1.cell? ⟨w.heap.size, 0, none⟩ = some (.int .i64 p.term) := celB hB1 (by simp [go_sem]); have q2 : w1.cell? ⟨w.heap.size, 2, none⟩ = some (.slice r2 p.log.length k2) := celB hB1 (by simp [go_sem]); have q3 : w1.cell? ⟨w.heap.size, 3, none⟩ = some (.int .i64 p.commit) := celB hB1 (by simp [go_sem]); have q4 : w1.cell? ⟨w.heap.size, 4, none⟩ = some (.slice r4 p.mat.length k4) := celB hB1 (by simp [go_sem]); have z4 := h4.below BB; clear hB1) | (go_at_call 68; refine (allWithin_c _ _ _ _ _ z4 l4 _ g5).mono ?_; rintro e w' ⟨rfl, rfl⟩))
              go_ret
              exact ⟨ret_bool rfl, by first | exact BB | exact HB _⟩
            | true =>
              have HE : Hid (okPe n p = true) := by show _ = _; rw [okPe_n h0, g1, g2, g3, g4, g5]; simp
              have g4' : ((p.mat.length : Int) == (n : Int)) = true := by have := of_decide_eq_true g4; simp [this]
              clear g4
              rw [HE.out]
              unfold peV
              rw [h0]
              go_enter Try.func51, Try.ntmps51
              go_wp2_with (first | (go_at_call 61; refine (within_c _ _ _ _ (by first | exact g1 | exact g3)).mono ?_; rintro e w' ⟨rfl, rfl⟩) | (go_at_call 58; refine (goodRaftLog_c _ _ _ _ _ (h2.below (HB _)) l2 _ g2).mono ?_; rintro r w1 ⟨rfl, hB1⟩; have BB := stRa (HB _) hB1; have q0 : w1.cell? ⟨w.heap.size, 0, none⟩ = some (.int .i64 p.term) := celB hB1 (by simp [go_sem]); have q2 : w1.cell? ⟨w.heap.size, 2, none⟩ = some (.slice r2 p.log.length k2) := celB hB1 (by simp [go_sem]); have q3 : w1.cell? ⟨w.heap.size, 3, none⟩ = some (.int .i64 p.commit) := celB hB1 (by simp [go_sem]); have q4 : w1.cell? ⟨w.heap.size, 4, none⟩ = some (.slice r4 p.mat.length k4) := celB hB1 (by simp [go_sem]); have z4 := h4.below BB; clear hB1) | (go_at_call 68; refine (allWithin_c _ _ _ _ _ z4 l4 _ g5).mono ?_; rintro e w' ⟨rfl, rfl⟩))
              go_ret
              exact ⟨ret_bool rfl, by first | exact BB | exact HB _⟩

theorem goodPeer_c (p : Pe) (r2 r4 : Option Addr) (k2 k4 n : Nat) (w : World) (h2 : Ens w r2 p.log) (l2 : p.log.length ≤ maxLen) (h4 : Ints w r4 p.mat) (l4 : p.mat.length ≤ maxLen) (b : Bool) (h : okPe n p = b) :
    Calls Try.prog 51 #[peV p r2 k2 r4 k4, .int .i64 (n : Int)] w fun r w' => r = .returned (.bool b) ∧ Below w.heap.size w w' := by
  rw [← h]; exact goodPeer_any p r2 r4 k2 k4 n w h2 l2 h4 l4

set_option maxRecDepth 100000 in
set_option maxHeartbeats 4000000 in
theorem litPe_any (p : Pe) (r2 r4 : Option Addr) (k2 k4 n Bv : Nat) (w : World) (h2 : Ens w r2 p.log) (l2 : p.log.length ≤ maxLen) (h4 : Ints w r4 p.mat) (l4 : p.mat.length ≤ maxLen) (cN : w.cell? ⟨Bv, 0, none⟩ = some (.int .i64 (n : Int))) :
    Calls Try.prog 50 #[peV p r2 k2 r4 k4, .pointer (some ⟨Bv, 0, none⟩)] w fun r w' => r = .returned (.bool (okPe n p)) ∧ Below w.heap.size w w' := by
  have HB : ∀ o, Below w.heap.size w (w.alloc o) := fun o => alRa w o
  have d3 : ∀ o, (w.alloc o).cell? ⟨Bv, 0, none⟩ = some (.int .i64 (n : Int)) := fun o => celB (HB o) cN
  go_enter Try.func50, Try.ntmps50
  go_wp2_with fail
  refine (goodPeer_any p _ _ _ _ n _ (h2.below (HB _)) l2 (h4.below (HB _)) l4).mono ?_
  rintro r w1 ⟨rfl, hB1⟩
  go_wp2
  go_ret
  exact ⟨ret_bool rfl, stRa (HB _) hB1⟩

theorem litPe_c (p : Pe) (r2 r4 : Option Addr) (k2 k4 n Bv : Nat) (w : World) (h2 : Ens w r2 p.log) (l2 : p.log.length ≤ maxLen) (h4 : Ints w r4 p.mat) (l4 : p.mat.length ≤ maxLen) (cN : w.cell? ⟨Bv, 0, none⟩ = some (.int .i64 (n : Int))) (b : Bool) (h : okPe n p = b) :
    Calls Try.prog 50 #[peV p r2 k2 r4 k4, .pointer (some ⟨Bv, 0, none⟩)] w fun r w' => r = .returned (.bool b) ∧ Below w.heap.size w w' := by
  rw [← h]; exact litPe_any p r2 r4 k2 k4 n Bv w h2 l2 h4 l4 cN

abbrev litP (Bv : Nat) : Value := .func (.func 50) #[] #[.pointer (some ⟨Bv, 0, none⟩)]

set_option maxRecDepth 100000 in
set_option maxHeartbeats 4000000 in
theorem allOfP_any (n Bv : Nat) (a : Option Addr) (c : Nat) (l : List Pe) (w : World) (hs : Pes w a l) (hl : l.length ≤ maxLen) (cN : w.cell? ⟨Bv, 0, none⟩ = some (.int .i64 (n : Int))) :
    Calls Try.prog 49 #[.slice a l.length c, litP Bv] w fun r w' => r = .returned (.bool (l.all (okPe n))) ∧ Below w.heap.size w w' := by
  unfold maxLen at hl
  go_enter Try.func49, Try.ntmps49
  go_wp2
  go_loopw [9] (fun i wr => ∃ k : Nat, k ≤ l.length ∧ i = .int .i64 k ∧ Hid (allTo (okPe n) l k) ∧ Below w.heap.size w wr) (fun i _ => l.length - (intOf i).toNat)
  case atStart => exact ⟨0, Nat.zero_le _, rfl, allTo_zero _ _, Below.refl _ _⟩
  case round =>
    obtain ⟨k, hk, rfl, HO, hB⟩ := hrel
    by_cases hlt : k < l.length
    · obtain ⟨x, hkb⟩ := getPe hlt
      obtain ⟨b, off, rfl, r2, k2, r4, k4, c0, c1, c2, c3, c4, z2, m2, z4, m4⟩ := (hs.below hB) k _ hkb
      have dN := celB hB cN
      have HK : Hid (l[k]? = some x) := hkb
      have hki : (k : Int) < (l.length : Int) := by omega
      clear hkb
      cases g : (okPe n) x with
      | false =>
        have HE : Hid (l.all (okPe n) = false) := all_bad HK.out g
        go_wp2_with fail
        refine (litPe_c x _ _ _ _ n Bv _ (z2.below (alRa _ _)) m2 (z4.below (alRa _ _)) m4 (celB (alRa _ _) dN) _ g).mono ?_
        rintro r w1 ⟨rfl, hB1⟩
        have BB := stRa (stRa hB (alRa _ _)) hB1
        go_wp2
        go_ret
        exact ⟨ret_bool HE.out.symm, BB⟩
      | true =>
        have HN : Hid (allTo (okPe n) l (k + 1)) := allTo_succ HO.out HK.out g
        go_wp2_with fail
        refine (litPe_c x _ _ _ _ n Bv _ (z2.below (alRa _ _)) m2 (z4.below (alRa _ _)) m4 (celB (alRa _ _) dN) _ g).mono ?_
        rintro r w1 ⟨rfl, hB1⟩
        have BB := stRa (stRa hB (alRa _ _)) hB1
        go_wp2
        go_roundw
        case rel => exact ⟨k + 1, by omega, by go_num, HN.out, BB⟩
        case measure => simp [intOf]; omega
    · obtain rfl : k = l.length := by omega
      have HE : Hid (l.all (okPe n) = true) := all_done HO.out
      go_wp2
      go_ret
      exact ⟨ret_bool HE.out.symm, hB⟩

theorem allOfP_c (n Bv : Nat) (a : Option Addr) (c : Nat) (l : List Pe) (w : World) (hs : Pes w a l) (hl : l.length ≤ maxLen) (cN : w.cell? ⟨Bv, 0, none⟩ = some (.int .i64 (n : Int))) (b : Bool) (h : l.all (okPe n) = b) :
    Calls Try.prog 49 #[.slice a l.length c, litP Bv] w fun r w' => r = .returned (.bool b) ∧ Below w.heap.size w w' := by
  rw [← h]; exact allOfP_any n Bv a c l w hs hl cN

end Go.Proofs.Ytglncbhbeikclaa
