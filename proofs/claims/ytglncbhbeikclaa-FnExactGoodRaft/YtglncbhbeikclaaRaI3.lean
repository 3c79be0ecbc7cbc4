/-
  Rafts, the program's side: letters, all of them, and impl.GoodRaft. Made by mkrai.py.
-/
import Derived.Test.YtglncbhbeikclaaRaI2
namespace Go.Proofs.Ytglncbhbeikclaa
open Go.RowKit

theorem thB_in (n : Nat) (k : Int) : inB k 0 ((n : Int) - 1) = thB n k := by rw [Bool.eq_iff_iff, inB_t, thB_t]; omega
theorem nat_beq (a : Nat) : decide (a = 0) = ((a : Int) == 0) := by rw [Bool.eq_iff_iff]; simp

theorem okMa_r {n : Nat} {m : Ma} (h : m.reply = true) : okMa n m = (inB m.fr 0 ((n : Int) - 1) && (inB m.to 0 ((n : Int) - 1) && (!(m.fr == m.to) && (inB m.term 0 100 && ((m.prev == 0) && ((m.pterm == 0) && (((m.entry.length : Int) == 0) && ((m.commit == 0) && inB m.mat 0 30)))))))) := by
  rw [okMa_is]; unfold okMI; rw [if_pos h, thB_in, thB_in]; unfold okRe; rw [dec_beq, dec_beq, dec_beq, dec_beq, nat_beq]
theorem okMa_a {n : Nat} {m : Ma} (h : m.reply = false) : okMa n m = (inB m.fr 0 ((n : Int) - 1) && (inB m.to 0 ((n : Int) - 1) && (!(m.fr == m.to) && (inB m.term 0 100 && (inB m.prev 0 30 && (inB m.commit 0 30 && ((m.mat == 0) && (okTA m && okME m)))))))) := by
  rw [okMa_is]; unfold okMI; rw [if_neg (by simp [h]), thB_in, thB_in]; unfold okAI; rw [dec_beq, dec_beq]

abbrev maR (rp : Bool) (m : Ma) (r6 : Option Addr) (k6 : Nat) : Value := .agg #[.bool rp, .int .i64 m.fr, .int .i64 m.to, .int .i64 m.term, .int .i64 m.prev, .int .i64 m.pterm, .slice r6 m.entry.length k6, .int .i64 m.commit, .int .i64 m.mat]
theorem goodTermAhead_r (rp : Bool) (m : Ma) (r6 : Option Addr) (k6 : Nat) (w : World) (b : Bool) (h : okTA m = b) :
    Calls Try.prog 69 #[maR rp m r6 k6] w fun r w' => r = .returned (.bool b) ∧ Below w.heap.size w w' := goodTermAhead_c ⟨rp, m.fr, m.to, m.term, m.prev, m.pterm, m.entry, m.commit, m.mat⟩ r6 k6 w b h
theorem goodMailEntry_r (rp : Bool) (m : Ma) (r6 : Option Addr) (k6 : Nat) (w : World) (hs : Ens w r6 m.entry) (hl : m.entry.length ≤ maxLen) (b : Bool) (h : okME m = b) :
    Calls Try.prog 70 #[maR rp m r6 k6] w fun r w' => r = .returned (.bool b) ∧ Below w.heap.size w w' := goodMailEntry_c ⟨rp, m.fr, m.to, m.term, m.prev, m.pterm, m.entry, m.commit, m.mat⟩ r6 k6 w hs hl b h

set_option maxRecDepth 100000 in
set_option maxHeartbeats 16000000 in
theorem goodMail_any (m : Ma) (r6 : Option Addr) (k6 n : Nat) (w : World) (hs : Ens w r6 m.entry) (hl : m.entry.length ≤ maxLen) (hn : n ≤ 1000) :
    Calls Try.prog 54 #[maV m r6 k6, .int .i64 (n : Int)] w fun r w' => r = .returned (.bool (okMa n m)) ∧ Below w.heap.size w w' := by
  have hl' := hl
  unfold maxLen at hl'
  have HB : ∀ o, Below w.heap.size w (w.alloc o) := fun o => alRa w o
  cases h0 : m.reply with
  | true =>
    cases g1 : inB m.fr 0 ((n : Int) - 1) with
    | false =>
      have HE : Hid (okMa n m = false) := by show _ = _; rw [okMa_r h0, g1]; simp
      rw [HE.out]
      unfold maV
      rw [h0]
      go_enter Try.func54, Try.ntmps54
      go_wp2_with (first | (go_at_call 61; refine (within_c _ _ _ _ (by first | exact g1 | exact g2 | exact g3 | exact g4 | exact g5 | exact g6 | exact g7 | exact g8 | exact g9)).mono ?_; rintro e w' ⟨rfl, rfl⟩) | (go_at_call 69; refine (goodTermAhead_r _ m _ _ _ _ g8).mono ?_; rintro r w1 ⟨rfl, hB1⟩; have BB := stRa (HB _) hB1; have q1 : w1.cell? ⟨w.heap.size, 1, none⟩ = some (.int .i64 m.fr) := celB hB1 (by simp [go_sem]); have q2 : w1.cell? ⟨w.heap.size, 2, none⟩ = some (.int .i64 m.to) := celB hB1 (by simp [go_sem]); have q3 : w1.cell? ⟨w.heap.size, 3, none⟩ = some (.int .i64 m.term) := celB hB1 (by simp [go_sem]); have q4 : w1.cell? ⟨w.heap.size, 4, none⟩ = some (.int .i64 m.prev) := celB hB1 (by simp [go_sem]); have q5 : w1.cell? ⟨w.heap.size, 5, none⟩ = some (.int .i64 m.pterm) := celB hB1 (by simp [go_sem]); have q6 : w1.cell? ⟨w.heap.size, 6, none⟩ = some (.slice r6 m.entry.length k6) := celB hB1 (by simp [go_sem]); have q7 : w1.cell? ⟨w.heap.size, 7, none⟩ = some (.int .i64 m.commit) := celB hB1 (by simp [go_sem]); have q8 : w1.cell? ⟨w.heap.size, 8, none⟩ = some (.int .i64 m.mat) := celB hB1 (by simp [go_sem]); have q0 : w1.cell? ⟨w.heap.size, 0, none⟩ = some (.bool true) := celB hB1 (by simp [go_sem]); have zz := (hs.below (HB _)).below hB1; clear hB1) | (go_at_call 70; refine (goodMailEntry_r _ m _ _ _ zz hl _ g9).mono ?_; rintro r w2 ⟨rfl, hB2⟩; have BC := stRa BB hB2))
      go_ret
      exact ⟨ret_bool rfl, by first | exact BC | exact BB | exact HB _⟩
    | true =>
      cases g2 : inB m.to 0 ((n : Int) - 1) with
      | false =>
        have HE : Hid (okMa n m = false) := by show _ = _; rw [okMa_r h0, g1, g2]; simp
        rw [HE.out]
        unfold maV
        rw [h0]
        go_enter Try.func54, Try.ntmps54
        go_wp2_with (first | (go_at_call 61; refine (within_c _ _ _ _ (by first | exact g1 | exact g2 | exact g3 | exact g4 | exact g5 | exact g6 | exact g7 | exact g8 | exact g9)).mono ?_; rintro e w' ⟨rfl, rfl⟩) | (go_at_call 69; refine (goodTermAhead_r _ m _ _ _ _ g8).mono ?_; rintro r w1 ⟨rfl, hB1⟩; have BB := stRa (HB _) hB1; have q1 : w1.cell? ⟨w.heap.size, 1, none⟩ = some (.int .i64 m.fr) := celB hB1 (by simp [go_sem]); have q2 : w1.cell? ⟨w.heap.size, 2, none⟩ = some (.int .i64 m.to) := celB hB1 (by simp [go_sem]); have q3 : w1.cell? ⟨w.heap.size, 3, none⟩ = some (.int .i64 m.term) := celB hB1 (by simp [go_sem]); have q4 : w1.cell? ⟨w.heap.size, 4, none⟩ = some (.int .i64 m.prev) := celB hB1 (by simp [go_sem]); have q5 : w1.cell? ⟨w.heap.size, 5, none⟩ = some (.int .i64 m.pterm) := celB hB1 (by simp [go_sem]); have q6 : w1.cell? ⟨w.heap.size, 6, none⟩ = some (.slice r6 m.entry.length k6) := celB hB1 (by simp [go_sem]); have q7 : w1.cell? ⟨w.heap.size, 7, none⟩ = some (.int .i64 m.commit) := celB hB1 (by simp [go_sem]); have q8 : w1.cell? ⟨w.heap.size, 8, none⟩ = some (.int .i64 m.mat) := celB hB1 (by simp [go_sem]); have q0 : w1.cell? ⟨w.heap.size, 0, none⟩ = some (.bool true) := celB hB1 (by simp [go_sem]); have zz := (hs.below (HB _)).below hB1; clear hB1) | (go_at_call 70; refine (goodMailEntry_r _ m _ _ _ zz hl _ g9).mono ?_; rintro r w2 ⟨rfl, hB2⟩; have BC := stRa BB hB2))
        go_ret
        exact ⟨ret_bool rfl, by first | exact BC | exact BB | exact HB _⟩
      | true =>
        cases g3 : (m.fr == m.to) with
        | true =>
          have HE : Hid (okMa n m = false) := by show _ = _; rw [okMa_r h0, g1, g2, g3]; simp
          rw [HE.out]
          unfold maV
          rw [h0]
          go_enter Try.func54, Try.ntmps54
          go_wp2_with (first | (go_at_call 61; refine (within_c _ _ _ _ (by first | exact g1 | exact g2 | exact g3 | exact g4 | exact g5 | exact g6 | exact g7 | exact g8 | exact g9)).mono ?_; rintro e w' ⟨rfl, rfl⟩) | (go_at_call 69; refine (goodTermAhead_r _ m _ _ _ _ g8).mono ?_; rintro r w1 ⟨rfl, hB1⟩; have BB := stRa (HB _) hB1; have q1 : w1.cell? ⟨w.heap.size, 1, none⟩ = some (.int .i64 m.fr) := celB hB1 (by simp [go_sem]); have q2 : w1.cell? ⟨w.heap.size, 2, none⟩ = some (.int .i64 m.to) := celB hB1 (by simp [go_sem]); have q3 : w1.cell? ⟨w.heap.size, 3, none⟩ = some (.int .i64 m.term) := celB hB1 (by simp [go_sem]); have q4 : w1.cell? ⟨w.heap.size, 4, none⟩ = some (.int .i64 m.prev) := celB hB1 (by simp [go_sem]); have q5 : w1.cell? ⟨w.heap.size, 5, none⟩ = some (.int .i64 m.pterm) := celB hB1 (by simp [go_sem]); have q6 : w1.cell? ⟨w.heap.size, 6, none⟩ = some (.slice r6 m.entry.length k6) := celB hB1 (by simp [go_sem]); have q7 : w1.cell? ⟨w.heap.size, 7, none⟩ = some (.int .i64 m.commit) := celB hB1 (by simp [go_sem]); have q8 : w1.cell? ⟨w.heap.size, 8, none⟩ = some (.int .i64 m.mat) := celB hB1 (by simp [go_sem]); have q0 : w1.cell? ⟨w.heap.size, 0, none⟩ = some (.bool true) := celB hB1 (by simp [go_sem]); have zz := (hs.below (HB _)).below hB1; clear hB1) | (go_at_call 70; refine (goodMailEntry_r _ m _ _ _ zz hl _ g9).mono ?_; rintro r w2 ⟨rfl, hB2⟩; have BC := stRa BB hB2))
          go_ret
          exact ⟨ret_bool rfl, by first | exact BC | exact BB | exact HB _⟩
        | false =>
          cases g4 : inB m.term 0 100 with
          | false =>
            have HE : Hid (okMa n m = false) := by show _ = _; rw [okMa_r h0, g1, g2, g3, g4]; simp
            rw [HE.out]
            unfold maV
            rw [h0]
            go_enter Try.func54, Try.ntmps54
            go_wp2_with (first | (go_at_call 61; refine (within_c _ _ _ _ (by first | exact g1 | exact g2 | exact g3 | exact g4 | exact g5 | exact g6 | exact g7 | exact g8 | exact g9)).mono ?_; rintro e w' ⟨rfl, rfl⟩) | (go_at_call 69; refine (goodTermAhead_r _ m _ _ _ _ g8).mono ?_; rintro r w1 ⟨rfl, hB1⟩; have BB := stRa (HB _) hB1; have q1 : w1.cell? ⟨w.heap.size, 1, none⟩ = some (.int .i64 m.fr) := celB hB1 (by simp [go_sem]); have q2 : w1.cell? ⟨w.heap.size, 2, none⟩ = some (.int .i64 m.to) := celB hB1 (by simp [go_sem]); have q3 : w1.cell? ⟨w.heap.size, 3, none⟩ = some (.int .i64 m.term) := celB hB1 (by simp [go_sem]); have q4 : w1.cell? ⟨w.heap.size, 4, none⟩ = some (.int .i64 m.prev) := celB hB1 (by simp [go_sem]); have q5 : w1.cell? ⟨w.heap.size, 5, none⟩ = some (.int .i64 m.pterm) := celB hB1 (by simp [go_sem]); have q6 : w1.cell? ⟨w.heap.size, 6, none⟩ = some (.slice r6 m.entry.length k6) := celB hB1 (by simp [go_sem]); have q7 : w1.cell? ⟨w.heap.size, 7, none⟩ = some (.int .i64 m.commit) := celB hB1 (by simp [go_sem]); have q8 : w1.cell? ⟨w.heap.size, 8, none⟩ = some (.int .i64 m.mat) := celB hB1 (by simp [go_sem]); have q0 : w1.cell? ⟨w.heap.size, 0, none⟩ = some (.bool true) := celB hB1 (by simp [go_sem]); have zz := (hs.below (HB _)).below hB1; clear hB1) | (go_at_call 70; refine (goodMailEntry_r _ m _ _ _ zz hl _ g9).mono ?_; rintro r w2 ⟨rfl, hB2⟩; have BC := stRa BB hB2))
            go_ret
            exact ⟨ret_bool rfl, by first | exact BC | exact BB | exact HB _⟩
          | true =>
            cases g5 : (m.prev == 0) with
            | false =>
              have HE : Hid (okMa n m = false) := by show _ = _; rw [okMa_r h0, g1, g2, g3, g4, g5]; simp
              rw [HE.out]
              unfold maV
              rw [h0]
              go_enter Try.func54, Try.ntmps54
              go_wp2_with (first | (go_at_call 61; refine (within_c _ _ _ _ (by first | exact g1 | exact g2 | exact g3 | exact g4 | exact g5 | exact g6 | exact g7 | exact g8 | exact g9)).mono ?_; rintro e w' ⟨rfl, rfl⟩) | (go_at_call 69; refine (goodTermAhead_r _ m _ _ _ _ g8).mono ?_; rintro r w1 ⟨rfl, hB1⟩; have BB := stRa (HB _) hB1; have q1 : w1.cell? ⟨w.heap.size, 1, none⟩ = some (.int .i64 m.fr) := celB hB1 (by simp [go_sem]); have q2 : w1.cell? ⟨w.heap.size, 2, none⟩ = some (.int .i64 m.to) := celB hB1 (by simp [go_sem]); have q3 : w1.cell? ⟨w.heap.size, 3, none⟩ = some (.int .i64 m.term) := celB hB1 (by simp [go_sem]); have q4 : w1.cell? ⟨w.heap.size, 4, none⟩ = some (.int .i64 m.prev) := celB hB1 (by simp [go_sem]); have q5 : w1.cell? ⟨w.heap.size, 5, none⟩ = some (.int .i64 m.pterm) := celB hB1 (by simp [go_sem]); have q6 : w1.cell? ⟨w.heap.size, 6, none⟩ = some (.slice r6 m.entry.length k6) := celB hB1 (by simp [go_sem]); have q7 : w1.cell? ⟨w.heap.size, 7, none⟩ = some (.int .i64 m.commit) := celB hB1 (by simp [go_sem]); have q8 : w1.cell? ⟨w.heap.size, 8, none⟩ = some (.int .i64 m.mat) := celB hB1 (by simp [go_sem]); have q0 : w1.cell? ⟨w.heap.size, 0, none⟩ = some (.bool true) := celB hB1 (by simp [go_sem]); have zz := (hs.below (HB _)).below hB1; clear hB1) | (go_at_call 70; refine (goodMailEntry_r _ m _ _ _ zz hl _ g9).mono ?_; rintro r w2 ⟨rfl, hB2⟩; have BC := stRa BB hB2))
              go_ret
              exact ⟨ret_bool rfl, by first | exact BC | exact BB | exact HB _⟩
            | true =>
              cases g6 : (m.pterm == 0) with
              | false =>
                have HE : Hid (okMa n m = false) := by show _ = _; rw [okMa_r h0, g1, g2, g3, g4, g5, g6]; simp
                rw [HE.out]
                unfold maV
                rw [h0]
                go_enter Try.func54, Try.ntmps54
                go_wp2_with (first | (go_at_call 61; refine (within_c _ _ _ _ (by first | exact g1 | exact g2 | exact g3 | exact g4 | exact g5 | exact g6 | exact g7 | exact g8 | exact g9)).mono ?_; rintro e w' ⟨rfl, rfl⟩) | (go_at_call 69; refine (goodTermAhead_r _ m _ _ _ _ g8).mono ?_; rintro r w1 ⟨rfl, hB1⟩; have BB := stRa (HB _) hB1; have q1 : w1.cell? ⟨w.heap.size, 1, none⟩ = some (.int .i64 m.fr) := celB hB1 (by simp [go_sem]); have q2 : w1.cell? ⟨w.heap.size, 2, none⟩ = some (.int .i64 m.to) := celB hB1 (by simp [go_sem]); have q3 : w1.cell? ⟨w.heap.size, 3, none⟩ = some (.int .i64 m.term) := celB hB1 (by simp [go_sem]); have q4 : w1.cell? ⟨w.heap.size, 4, none⟩ = some (.int .i64 m.prev) := celB hB1 (by simp [go_sem]); have q5 : w1.cell? ⟨w.heap.size, 5, none⟩ = some (.int .i64 m.pterm) := celB hB1 (by simp [go_sem]); have q6 : w1.cell? ⟨w.heap.size, 6, none⟩ = some (.slice r6 m.entry.length k6) := celB hB1 (by simp [go_sem]); have q7 : w1.cell? ⟨w.heap.size, 7, none⟩ = some (.int .i64 m.commit) := celB hB1 (by simp [go_sem]); have q8 : w1.cell? ⟨w.heap.size, 8, none⟩ = some (.int .i64 m.mat) := celB hB1 (by simp [go_sem]); have q0 : w1.cell? ⟨w.heap.size, 0, none⟩ = some (.bool true) := celB hB1 (by simp [go_sem]); have zz := (hs.below (HB _)).below hB1; clear hB1) | (go_at_call 70; refine (goodMailEntry_r _ m _ _ _ zz hl _ g9).mono ?_; rintro r w2 ⟨rfl, hB2⟩; have BC := stRa BB hB2))
                go_ret
                exact ⟨ret_bool rfl, by first | exact BC | exact BB | exact HB _⟩
              | true =>
                cases g7 : ((m.entry.length : Int) == 0) with
                | false =>
                  have HE : Hid (okMa n m = false) := by show _ = _; rw [okMa_r h0, g1, g2, g3, g4, g5, g6, g7]; simp
                  rw [HE.out]
                  unfold maV
                  rw [h0]
                  go_enter Try.func54, Try.ntmps54
                  go_wp2_with (first | (go_at_call 61; refine (within_c _ _ _ _ (by first | exact g1 | exact g2 | exact g3 | exact g4 | exact g5 | exact g6 | exact g7 | exact g8 | exact g9)).mono ?_; rintro e w' ⟨rfl, rfl⟩) | (go_at_call 69; refine (goodTermAhead_r _ m _ _ _ _ g8).mono ?_; rintro r w1 ⟨rfl, hB1⟩; have BB := stRa (HB _) hB1; have q1 : w1.cell? ⟨w.heap.size, 1, none⟩ = some (.int .i64 m.fr) := celB hB1 (by simp [go_sem]); have q2 : w1.cell? ⟨w.heap.size, 2, none⟩ = some (.int .i64 m.to) := celB hB1 (by simp [go_sem]); have q3 : w1.cell? ⟨w.heap.size, 3, none⟩ = some (.int .i64 m.term) := celB hB1 (by simp [go_sem]); have q4 : w1.cell? ⟨w.heap.size, 4, none⟩ = some (.int .i64 m.prev) := celB hB1 (by simp [go_sem]); have q5 : w1.cell? ⟨w.heap.size, 5, none⟩ = some (.int .i64 m.pterm) := celB hB1 (by simp [go_sem]); have q6 : w1.cell? ⟨w.heap.size, 6, none⟩ = some (.slice r6 m.entry.length k6) := celB hB1 (by simp [go_sem]); have q7 : w1.cell? ⟨w.heap.size, 7, none⟩ = some (.int .i64 m.commit) := celB hB1 (by simp [go_sem]); have q8 : w1.cell? ⟨w.heap.size, 8, none⟩ = some (.int .i64 m.mat) := celB hB1 (by simp [go_sem]); have q0 : w1.cell? ⟨w.heap.size, 0, none⟩ = some (.bool true) := celB hB1 (by simp [go_sem]); have zz := (hs.below (HB _)).below hB1; clear hB1) | (go_at_call 70; refine (goodMailEntry_r _ m _ _ _ zz hl _ g9).mono ?_; rintro r w2 ⟨rfl, hB2⟩; have BC := stRa BB hB2))
                  go_ret
                  exact ⟨ret_bool rfl, by first | exact BC | exact BB | exact HB _⟩
                | true =>
                  cases g8 : (m.commit == 0) with
                  | false =>
                    have HE : Hid (okMa n m = false) := by show _ = _; rw [okMa_r h0, g1, g2, g3, g4, g5, g6, g7, g8]; simp
                    rw [HE.out]
                    unfold maV
                    rw [h0]
                    go_enter Try.func54, Try.ntmps54
                    go_wp2_with (first | (go_at_call 61; refine (within_c _ _ _ _ (by first | exact g1 | exact g2 | exact g3 | exact g4 | exact g5 | exact g6 | exact g7 | exact g8 | exact g9)).mono ?_; rintro e w' ⟨rfl, rfl⟩) | (go_at_call 69; refine (goodTermAhead_r _ m _ _ _ _ g8).mono ?_; rintro r w1 ⟨rfl, hB1⟩; have BB := stRa (HB _) hB1; have q1 : w1.cell? ⟨w.heap.size, 1, none⟩ = some (.int .i64 m.fr) := celB hB1 (by simp [go_sem]); have q2 : w1.cell? ⟨w.heap.size, 2, none⟩ = some (.int .i64 m.to) := celB hB1 (by simp [go_sem]); have q3 : w1.cell? ⟨w.heap.size, 3, none⟩ = some (.int .i64 m.term) := celB hB1 (by simp [go_sem]); have q4 : w1.cell? ⟨w.heap.size, 4, none⟩ = some (.int .i64 m.prev) := celB hB1 (by simp [go_sem]); have q5 : w1.cell? ⟨w.heap.size, 5, none⟩ = some (.int .i64 m.pterm) := celB hB1 (by simp [go_sem]); have q6 : w1.cell? ⟨w.heap.size, 6, none⟩ = some (.slice r6 m.entry.length k6) := celB hB1 (by simp [go_sem]); have q7 : w1.cell? ⟨w.heap.size, 7, none⟩ = some (.int .i64 m.commit) := celB hB1 (by simp [go_sem]); have q8 : w1.cell? ⟨w.heap.size, 8, none⟩ = some (.int .i64 m.mat) := celB hB1 (by simp [go_sem]); have q0 : w1.cell? ⟨w.heap.size, 0, none⟩ = some (.bool true) := celB hB1 (by simp [go_sem]); have zz := (hs.below (HB _)).below hB1; clear hB1) | (go_at_call 70; refine (goodMailEntry_r _ m _ _ _ zz hl _ g9).mono ?_; rintro r w2 ⟨rfl, hB2⟩; have BC := stRa BB hB2))
                    go_ret
                    exact ⟨ret_bool rfl, by first | exact BC | exact BB | exact HB _⟩
                  | true =>
                    cases g9 : inB m.mat 0 30 with
                    | false =>
                      have HE : Hid (okMa n m = false) := by show _ = _; rw [okMa_r h0, g1, g2, g3, g4, g5, g6, g7, g8, g9]; simp
                      rw [HE.out]
                      unfold maV
                      rw [h0]
                      go_enter Try.func54, Try.ntmps54
                      go_wp2_with (first | (go_at_call 61; refine (within_c _ _ _ _ (by first | exact g1 | exact g2 | exact g3 | exact g4 | exact g5 | exact g6 | exact g7 | exact g8 | exact g9)).mono ?_; rintro e w' ⟨rfl, rfl⟩) | (go_at_call 69; refine (goodTermAhead_r _ m _ _ _ _ g8).mono ?_; rintro r w1 ⟨rfl, hB1⟩; have BB := stRa (HB _) hB1; have q1 : w1.cell? ⟨w.heap.size, 1, none⟩ = some (.int .i64 m.fr) := celB hB1 (by simp [go_sem]); have q2 : w1.cell? ⟨w.heap.size, 2, none⟩ = some (.int .i64 m.to) := celB hB1 (by simp [go_sem]); have q3 : w1.cell? ⟨w.heap.size, 3, none⟩ = some (.int .i64 m.term) := celB hB1 (by simp [go_sem]); have q4 : w1.cell? ⟨w.heap.size, 4, none⟩ = some (.int .i64 m.prev) := celB hB1 (by simp [go_sem]); have q5 : w1.cell? ⟨w.heap.size, 5, none⟩ = some (.int .i64 m.pterm) := celB hB1 (by simp [go_sem]); have q6 : w1.cell? ⟨w.heap.size, 6, none⟩ = some (.slice r6 m.entry.length k6) := celB hB1 (by simp [go_sem]); have q7 : w1.cell? ⟨w.heap.size, 7, none⟩ = some (.int .i64 m.commit) := celB hB1 (by simp [go_sem]); have q8 : w1.cell? ⟨w.heap.size, 8, none⟩ = some (.int .i64 m.mat) := celB hB1 (by simp [go_sem]); have q0 : w1.cell? ⟨w.heap.size, 0, none⟩ = some (.bool true) := celB hB1 (by simp [go_sem]); have zz := (hs.below (HB _)).below hB1; clear hB1) | (go_at_call 70; refine (goodMailEntry_r _ m _ _ _ zz hl _ g9).mono ?_; rintro r w2 ⟨rfl, hB2⟩; have BC := stRa BB hB2))
                      go_ret
                      exact ⟨ret_bool rfl, by first | exact BC | exact BB | exact HB _⟩
                    | true =>
                      have HE : Hid (okMa n m = true) := by show _ = _; rw [okMa_r h0, g1, g2, g3, g4, g5, g6, g7, g8, g9]; simp
                      rw [HE.out]
                      unfold maV
                      rw [h0]
                      go_enter Try.func54, Try.ntmps54
                      go_wp2_with (first | (go_at_call 61; refine (within_c _ _ _ _ (by first | exact g1 | exact g2 | exact g3 | exact g4 | exact g5 | exact g6 | exact g7 | exact g8 | exact g9)).mono ?_; rintro e w' ⟨rfl, rfl⟩) | (go_at_call 69; refine (goodTermAhead_r _ m _ _ _ _ g8).mono ?_; rintro r w1 ⟨rfl, hB1⟩; have BB := stRa (HB _) hB1; have q1 : w1.cell? ⟨w.heap.size, 1, none⟩ = some (.int .i64 m.fr) := celB hB1 (by simp [go_sem]); have q2 : w1.cell? ⟨w.heap.size, 2, none⟩ = some (.int .i64 m.to) := celB hB1 (by simp [go_sem]); have q3 : w1.cell? ⟨w.heap.size, 3, none⟩ = some (.int .i64 m.term) := celB hB1 (by simp [go_sem]); have q4 : w1.cell? ⟨w.heap.size, 4, none⟩ = some (.int .i64 m.prev) := celB hB1 (by simp [go_sem]); have q5 : w1.cell? ⟨w.heap.size, 5, none⟩ = some (.int .i64 m.pterm) := celB hB1 (by simp [go_sem]); have q6 : w1.cell? ⟨w.heap.size, 6, none⟩ = some (.slice r6 m.entry.length k6) := celB hB1 (by simp [go_sem]); have q7 : w1.cell? ⟨w.heap.size, 7, none⟩ = some (.int .i64 m.commit) := celB hB1 (by simp [go_sem]); have q8 : w1.cell? ⟨w.heap.size, 8, none⟩ = some (.int .i64 m.mat) := celB hB1 (by simp [go_sem]); have q0 : w1.cell? ⟨w.heap.size, 0, none⟩ = some (.bool true) := celB hB1 (by simp [go_sem]); have zz := (hs.below (HB _)).below hB1; clear hB1) | (go_at_call 70; refine (goodMailEntry_r _ m _ _ _ zz hl _ g9).mono ?_; rintro r w2 ⟨rfl, hB2⟩; have BC := stRa BB hB2))
                      go_ret
                      exact ⟨ret_bool rfl, by first | exact BC | exact BB | exact HB _⟩
  | false =>
    cases g1 : inB m.fr 0 ((n : Int) - 1) with
    | false =>
      have HE : Hid (okMa n m = false) := by show _ = _; rw [okMa_a h0, g1]; simp
      rw [HE.out]
      unfold maV
      rw [h0]
      go_enter Try.func54, Try.ntmps54
      go_wp2_with (first | (go_at_call 61; refine (within_c _ _ _ _ (by first | exact g1 | exact g2 | exact g3 | exact g4 | exact g5 | exact g6 | exact g7 | exact g8 | exact g9)).mono ?_; rintro e w' ⟨rfl, rfl⟩) | (go_at_call 69; refine (goodTermAhead_r _ m _ _ _ _ g8).mono ?_; rintro r w1 ⟨rfl, hB1⟩; have BB := stRa (HB _) hB1; have q1 : w1.cell? ⟨w.heap.size, 1, none⟩ = some (.int .i64 m.fr) := celB hB1 (by simp [go_sem]); have q2 : w1.cell? ⟨w.heap.size, 2, none⟩ = some (.int .i64 m.to) := celB hB1 (by simp [go_sem]); have q3 : w1.cell? ⟨w.heap.size, 3, none⟩ = some (.int .i64 m.term) := celB hB1 (by simp [go_sem]); have q4 : w1.cell? ⟨w.heap.size, 4, none⟩ = some (.int .i64 m.prev) := celB hB1 (by simp [go_sem]); have q5 : w1.cell? ⟨w.heap.size, 5, none⟩ = some (.int .i64 m.pterm) := celB hB1 (by simp [go_sem]); have q6 : w1.cell? ⟨w.heap.size, 6, none⟩ = some (.slice r6 m.entry.length k6) := celB hB1 (by simp [go_sem]); have q7 : w1.cell? ⟨w.heap.size, 7, none⟩ = some (.int .i64 m.commit) := celB hB1 (by simp [go_sem]); have q8 : w1.cell? ⟨w.heap.size, 8, none⟩ = some (.int .i64 m.mat) := celB hB1 (by simp [go_sem]); have q0 : w1.cell? ⟨w.heap.size, 0, none⟩ = some (.bool false) := celB hB1 (by simp [go_sem]); have zz := (hs.below (HB _)).below hB1; clear hB1) | (go_at_call 70; refine (goodMailEntry_r _ m _ _ _ zz hl _ g9).mono ?_; rintro r w2 ⟨rfl, hB2⟩; have BC := stRa BB hB2))
      go_ret
      exact ⟨ret_bool rfl, by first | exact BC | exact BB | exact HB _⟩
    | true =>
      cases g2 : inB m.to 0 ((n : Int) - 1) with
      | false =>
        have HE : Hid (okMa n m = false) := by show _ = _; rw [okMa_a h0, g1, g2]; simp
        rw [HE.out]
        unfold maV
        rw [h0]
        go_enter Try.func54, Try.ntmps54
        go_wp2_with (first | (go_at_call 61; refine (within_c _ _ _ _ (by first | exact g1 | exact g2 | exact g3 | exact g4 | exact g5 | exact g6 | exact g7 | exact g8 | exact g9)).mono ?_; rintro e w' ⟨rfl, rfl⟩) | (go_at_call 69; refine (goodTermAhead_r _ m _ _ _ _ g8).mono ?_; rintro r w1 ⟨rfl, hB1⟩; have BB := stRa (HB _) hB1; have q1 : w1.cell? ⟨w.heap.size, 1, none⟩ = some (.int .i64 m.fr) := celB hB1 (by simp [go_sem]); have q2 : w1.cell? ⟨w.heap.size, 2, none⟩ = some (.int .i64 m.to) := celB hB1 (by simp [go_sem]); have q3 : w1.cell? ⟨w.heap.size, 3, none⟩ = some (.int .i64 m.term) := celB hB1 (by simp [go_sem]); have q4 : w1.cell? ⟨w.heap.size, 4, none⟩ = some (.int .i64 m.prev) := celB hB1 (by simp [go_sem]); have q5 : w1.cell? ⟨w.heap.size, 5, none⟩ = some (.int .i64 m.pterm) := celB hB1 (by simp [go_sem]); have q6 : w1.cell? ⟨w.heap.size, 6, none⟩ = some (.slice r6 m.entry.length k6) := celB hB1 (by simp [go_sem]); have q7 : w1.cell? ⟨w.heap.size, 7, none⟩ = some (.int .i64 m.commit) := celB hB1 (by simp [go_sem]); have q8 : w1.cell? ⟨w.heap.size, 8, none⟩ = some (.int .i64 m.mat) := celB hB1 (by simp [go_sem]); have q0 : w1.cell? ⟨w.heap.size, 0, none⟩ = some (.bool false) := celB hB1 (by simp [go_sem]); have zz := (hs.below (HB _)).below hB1; clear hB1) | (go_at_call 70; refine (goodMailEntry_r _ m _ _ _ zz hl _ g9).mono ?_; rintro r w2 ⟨rfl, hB2⟩; have BC := stRa BB hB2))
        go_ret
        exact ⟨ret_bool rfl, by first | exact BC | exact BB | exact HB _⟩
      | true =>
        cases g3 : (m.fr == m.to) with
        | true =>
          have HE : Hid (okMa n m = false) := by show _ = _; rw [okMa_a h0, g1, g2, g3]; simp
          rw [HE.out]
          unfold maV
          rw [h0]
          go_enter Try.func54, Try.ntmps54
          go_wp2_with (first | (go_at_call 61; refine (within_c _ _ _ _ (by first | exact g1 | exact g2 | exact g3 | exact g4 | exact g5 | exact g6 | exact g7 | exact g8 | exact g9)).mono ?_; rintro e w' ⟨rfl, rfl⟩) | (go_at_call 69; refine (goodTermAhead_r _ m _ _ _ _ g8).mono ?_; rintro r w1 ⟨rfl, hB1⟩; have BB := stRa (HB _) hB1; have q1 : w1.cell? ⟨w.heap.size, 1, none⟩ = some (.int .i64 m.fr) := celB hB1 (by simp [go_sem]); have q2 : w1.cell? ⟨w.heap.size, 2, none⟩ = some (.int .i64 m.to) := celB hB1 (by simp [go_sem]); have q3 : w1.cell? ⟨w.heap.size, 3, none⟩ = some (.int .i64 m.term) := celB hB1 (by simp [go_sem]); have q4 : w1.cell? ⟨w.heap.size, 4, none⟩ = some (.int .i64 m.prev) := celB hB1 (by simp [go_sem]); have q5 : w1.cell? ⟨w.heap.size, 5, none⟩ = some (.int .i64 m.pterm) := celB hB1 (by simp [go_sem]); have q6 : w1.cell? ⟨w.heap.size, 6, none⟩ = some (.slice r6 m.entry.length k6) := celB hB1 (by simp [go_sem]); have q7 : w1.cell? ⟨w.heap.size, 7, none⟩ = some (.int .i64 m.commit) := celB hB1 (by simp [go_sem]); have q8 : w1.cell? ⟨w.heap.size, 8, none⟩ = some (.int .i64 m.mat) := celB hB1 (by simp [go_sem]); have q0 : w1.cell? ⟨w.heap.size, 0, none⟩ = some (.bool false) := celB hB1 (by simp [go_sem]); have zz := (hs.below (HB _)).below hB1; clear hB1) | (go_at_call 70; refine (goodMailEntry_r _ m _ _ _ zz hl _ g9).mono ?_; rintro r w2 ⟨rfl, hB2⟩; have BC := stRa BB hB2))
          go_ret
          exact ⟨ret_bool rfl, by first | exact BC | exact BB | exact HB _⟩
        | false =>
          cases g4 : inB m.term 0 100 with
          | false =>
            have HE : Hid (okMa n m = false) := by show _ = _; rw [okMa_a h0, g1, g2, g3, g4]; simp
            rw [HE.out]
            unfold maV
            rw [h0]
            go_enter Try.func54, Try.ntmps54
            go_wp2_with (first | (go_at_call 61; refine (within_c _ _ _ _ (by first | exact g1 | exact g2 | exact g3 | exact g4 | exact g5 | exact g6 | exact g7 | exact g8 | exact g9)).mono ?_; rintro e w' ⟨rfl, rfl⟩) | (go_at_call 69; refine (goodTermAhead_r _ m _ _ _ _ g8).mono ?_; rintro r w1 ⟨rfl, hB1⟩; have BB := stRa (HB _) hB1; have q1 : w1.cell? ⟨w.heap.size, 1, none⟩ = some (.int .i64 m.fr) := celB hB1 (by simp [go_sem]); have q2 : w1.cell? ⟨w.heap.size, 2, none⟩ = some (.int .i64 m.to) := celB hB1 (by simp [go_sem]); have q3 : w1.cell? ⟨w.heap.size, 3, none⟩ = some (.int .i64 m.term) := celB hB1 (by simp [go_sem]); have q4 : w1.cell? ⟨w.heap.size, 4, none⟩ = some (.int .i64 m.prev) := celB hB1 (by simp [go_sem]); have q5 : w1.cell? ⟨w.heap.size, 5, none⟩ = some (.int .i64 m.pterm) := celB hB1 (by simp [go_sem]); have q6 : w1.cell? ⟨w.heap.size, 6, none⟩ = some (.slice r6 m.entry.length k6) := celB hB1 (by simp [go_sem]); have q7 : w1.cell? ⟨w.heap.size, 7, none⟩ = some (.int .i64 m.commit) := celB hB1 (by simp [go_sem]); have q8 : w1.cell? ⟨w.heap.size, 8, none⟩ = some (.int .i64 m.mat) := celB hB1 (by simp [go_sem]); have q0 : w1.cell? ⟨w.heap.size, 0, none⟩ = some (.bool false) := celB hB1 (by simp [go_sem]); have zz := (hs.below (HB _)).below hB1; clear hB1) | (go_at_call 70; refine (goodMailEntry_r _ m _ _ _ zz hl _ g9).mono ?_; rintro r w2 ⟨rfl, hB2⟩; have BC := stRa BB hB2))
            go_ret
            exact ⟨ret_bool rfl, by first | exact BC | exact BB | exact HB _⟩
          | true =>
            cases g5 : inB m.prev 0 30 with
            | false =>
              have HE : Hid (okMa n m = false) := by show _ = _; rw [okMa_a h0, g1, g2, g3, g4, g5]; simp
              rw [HE.out]
              unfold maV
              rw [h0]
              go_enter Try.func54, Try.ntmps54
              go_wp2_with (first | (go_at_call 61; refine (within_c _ _ _ _ (by first | exact g1 | exact g2 | exact g3 | exact g4 | exact g5 | exact g6 | exact g7 | exact g8 | exact g9)).mono ?_; rintro e w' ⟨rfl, rfl⟩) | (go_at_call 69; refine (goodTermAhead_r _ m _ _ _ _ g8).mono ?_; rintro r w1 ⟨rfl, hB1⟩; have BB := stRa (HB _) hB1; have q1 : w1.cell? ⟨w.heap.size, 1, none⟩ = some (.int .i64 m.fr) := celB hB1 (by simp [go_sem]); have q2 : w1.cell? ⟨w.heap.size, 2, none⟩ = some (.int .i64 m.to) := celB hB1 (by simp [go_sem]); have q3 : w1.cell? ⟨w.heap.size, 3, none⟩ = some (.int .i64 m.term) := celB hB1 (by simp [go_sem]); have q4 : w1.cell? ⟨w.heap.size, 4, none⟩ = some (.int .i64 m.prev) := celB hB1 (by simp [go_sem]); have q5 : w1.cell? ⟨w.heap.size, 5, none⟩ = some (.int .i64 m.pterm) := celB hB1 (by simp [go_sem]); have q6 : w1.cell? ⟨w.heap.size, 6, none⟩ = some (.slice r6 m.entry.length k6) := celB hB1 (by simp [go_sem]); have q7 : w1.cell? ⟨w.heap.size, 7, none⟩ = some (.int .i64 m.commit) := celB hB1 (by simp [go_sem]); have q8 : w1.cell? ⟨w.heap.size, 8, none⟩ = some (.int .i64 m.mat) := celB hB1 (by simp [go_sem]); have q0 : w1.cell? ⟨w.heap.size, 0, none⟩ = some (.bool false) := celB hB1 (by simp [go_sem]); have zz := (hs.below (HB _)).below hB1; clear hB1) | (go_at_call 70; refine (goodMailEntry_r _ m _ _ _ zz hl _ g9).mono ?_; rintro r w2 ⟨rfl, hB2⟩; have BC := stRa BB hB2))
              go_ret
              exact ⟨ret_bool rfl, by first | exact BC | exact BB | exact HB _⟩
            | true =>
              cases g6 : inB m.commit 0 30 with
              | false =>
                have HE : Hid (okMa n m = false) := by show _ = _; rw [okMa_a h0, g1, g2, g3, g4, g5, g6]; simp
                rw [HE.out]
                unfold maV
                rw [h0]
                go_enter Try.func54, Try.ntmps54
                go_wp2_with (first | (go_at_call 61; refine (within_c _ _ _ _ (by first | exact g1 | exact g2 | exact g3 | exact g4 | exact g5 | exact g6 | exact g7 | exact g8 | exact g9)).mono ?_; rintro e w' ⟨rfl, rfl⟩) | (go_at_call 69; refine (goodTermAhead_r _ m _ _ _ _ g8).mono ?_; rintro r w1 ⟨rfl, hB1⟩; have BB := stRa (HB _) hB1; have q1 : w1.cell? ⟨w.heap.size, 1, none⟩ = some (.int .i64 m.fr) := celB hB1 (by simp [go_sem]); have q2 : w1.cell? ⟨w.heap.size, 2, none⟩ = some (.int .i64 m.to) := celB hB1 (by simp [go_sem]); have q3 : w1.cell? ⟨w.heap.size, 3, none⟩ = some (.int .i64 m.term) := celB hB1 (by simp [go_sem]); have q4 : w1.cell? ⟨w.heap.size, 4, none⟩ = some (.int .i64 m.prev) := celB hB1 (by simp [go_sem]); have q5 : w1.cell? ⟨w.heap.size, 5, none⟩ = some (.int .i64 m.pterm) := celB hB1 (by simp [go_sem]); have q6 : w1.cell? ⟨w.heap.size, 6, none⟩ = some (.slice r6 m.entry.length k6) := celB hB1 (by simp [go_sem]); have q7 : w1.cell? ⟨w.heap.size, 7, none⟩ = some (.int .i64 m.commit) := celB hB1 (by simp [go_sem]); have q8 : w1.cell? ⟨w.heap.size, 8, none⟩ = some (.int .i64 m.mat) := celB hB1 (by simp [go_sem]); have q0 : w1.cell? ⟨w.heap.size, 0, none⟩ = some (.bool false) := celB hB1 (by simp [go_sem]); have zz := (hs.below (HB _)).below hB1; clear hB1) | (go_at_call 70; refine (goodMailEntry_r _ m _ _ _ zz hl _ g9).mono ?_; rintro r w2 ⟨rfl, hB2⟩; have BC := stRa BB hB2))
                go_ret
                exact ⟨ret_bool rfl, by first | exact BC | exact BB | exact HB _⟩
              | true =>
                cases g7 : (m.mat == 0) with
                | false =>
                  have HE : Hid (okMa n m = false) := by show _ = _; rw [okMa_a h0, g1, g2, g3, g4, g5, g6, g7]; simp
                  rw [HE.out]
                  unfold maV
                  rw [h0]
                  go_enter Try.func54, Try.ntmps54
                  go_wp2_with (first | (go_at_call 61; refine (within_c _ _ _ _ (by first | exact g1 | exact g2 | exact g3 | exact g4 | exact g5 | exact g6 | exact g7 | exact g8 | exact g9)).mono ?_; rintro e w' ⟨rfl, rfl⟩) | (go_at_call 69; refine (goodTermAhead_r _ m _ _ _ _ g8).mono ?_; rintro r w1 ⟨rfl, hB1⟩; have BB := stRa (HB _) hB1; have q1 : w1.cell? ⟨w.heap.size, 1, none⟩ = some (.int .i64 m.fr) := celB hB1 (by simp [go_sem]); have q2 : w1.cell? ⟨w.heap.size, 2, none⟩ = some (.int .i64 m.to) := celB hB1 (by simp [go_sem]); have q3 : w1.cell? ⟨w.heap.size, 3, none⟩ = some (.int .i64 m.term) := celB hB1 (by simp [go_sem]); have q4 : w1.cell? ⟨w.heap.size, 4, none⟩ = some (.int .i64 m.prev) := celB hB1 (by simp [go_sem]); have q5 : w1.cell? ⟨w.heap.size, 5, none⟩ = some (.int .i64 m.pterm) := celB hB1 (by simp [go_sem]); have q6 : w1.cell? ⟨w.heap.size, 6, none⟩ = some (.slice r6 m.entry.length k6) := celB hB1 (by simp [go_sem]); have q7 : w1.cell? ⟨w.heap.size, 7, none⟩ = some (.int .i64 m.commit) := celB hB1 (by simp [go_sem]); have q8 : w1.cell? ⟨w.heap.size, 8, none⟩ = some (.int .i64 m.mat) := celB hB1 (by simp [go_sem]); have q0 : w1.cell? ⟨w.heap.size, 0, none⟩ = some (.bool false) := celB hB1 (by simp [go_sem]); have zz := (hs.below (HB _)).below hB1; clear hB1) | (go_at_call 70; refine (goodMailEntry_r _ m _ _ _ zz hl _ g9).mono ?_; rintro r w2 ⟨rfl, hB2⟩; have BC := stRa BB hB2))
                  go_ret
                  exact ⟨ret_bool rfl, by first | exact BC | exact BB | exact HB _⟩
                | true =>
                  cases g8 : okTA m with
                  | false =>
                    have HE : Hid (okMa n m = false) := by show _ = _; rw [okMa_a h0, g1, g2, g3, g4, g5, g6, g7, g8]; simp
                    rw [HE.out]
                    unfold maV
                    rw [h0]
                    go_enter Try.func54, Try.ntmps54
                    go_wp2_with (first | (go_at_call 61; refine (within_c _ _ _ _ (by first | exact g1 | exact g2 | exact g3 | exact g4 | exact g5 | exact g6 | exact g7 | exact g8 | exact g9)).mono ?_; rintro e w' ⟨rfl, rfl⟩) | (go_at_call 69; refine (goodTermAhead_r _ m _ _ _ _ g8).mono ?_; rintro r w1 ⟨rfl, hB1⟩; have BB := stRa (HB _) hB1; have q1 : w1.cell? ⟨w.heap.size, 1, none⟩ = some (.int .i64 m.fr) := celB hB1 (by simp [go_sem]); have q2 : w1.cell? ⟨w.heap.size, 2, none⟩ = some (.int .i64 m.to) := celB hB1 (by simp [go_sem]); have q3 : w1.cell? ⟨w.heap.size, 3, none⟩ = some (.int .i64 m.term) := celB hB1 (by simp [go_sem]); have q4 : w1.cell? ⟨w.heap.size, 4, none⟩ = some (.int .i64 m.prev) := celB hB1 (by simp [go_sem]); have q5 : w1.cell? ⟨w.heap.size, 5, none⟩ = some (.int .i64 m.pterm) := celB hB1 (by simp [go_sem]); have q6 : w1.cell? ⟨w.heap.size, 6, none⟩ = some (.slice r6 m.entry.length k6) := celB hB1 (by simp [go_sem]); have q7 : w1.cell? ⟨w.heap.size, 7, none⟩ = some (.int .i64 m.commit) := celB hB1 (by simp [go_sem]); have q8 : w1.cell? ⟨w.heap.size, 8, none⟩ = some (.int .i64 m.mat) := celB hB1 (by simp [go_sem]); have q0 : w1.cell? ⟨w.heap.size, 0, none⟩ = some (.bool false) := celB hB1 (by simp [go_sem]); have zz := (hs.below (HB _)).below hB1; clear hB1) | (go_at_call 70; refine (goodMailEntry_r _ m _ _ _ zz hl _ g9).mono ?_; rintro r w2 ⟨rfl, hB2⟩; have BC := stRa BB hB2))
                    go_ret
                    exact ⟨ret_bool rfl, by first | exact BC | exact BB | exact HB _⟩
                  | true =>
                    cases g9 : okME m with
                    | false =>
                      have HE : Hid (okMa n m = false) := by show _ = _; rw [okMa_a h0, g1, g2, g3, g4, g5, g6, g7, g8, g9]; simp
                      rw [HE.out]
                      unfold maV
                      rw [h0]
                      go_enter Try.func54, Try.ntmps54
                      go_wp2_with (first | (go_at_call 61; refine (within_c _ _ _ _ (by first | exact g1 | exact g2 | exact g3 | exact g4 | exact g5 | exact g6 | exact g7 | exact g8 | exact g9)).mono ?_; rintro e w' ⟨rfl, rfl⟩) | (go_at_call 69; refine (goodTermAhead_r _ m _ _ _ _ g8).mono ?_; rintro r w1 ⟨rfl, hB1⟩; have BB := stRa (HB _) hB1; have q1 : w1.cell? ⟨w.heap.size, 1, none⟩ = some (.int .i64 m.fr) := celB hB1 (by simp [go_sem]); have q2 : w1.cell? ⟨w.heap.size, 2, none⟩ = some (.int .i64 m.to) := celB hB1 (by simp [go_sem]); have q3 : w1.cell? ⟨w.heap.size, 3, none⟩ = some (.int .i64 m.term) := celB hB1 (by simp [go_sem]); have q4 : w1.cell? ⟨w.heap.size, 4, none⟩ = some (.int .i64 m.prev) := celB hB1 (by simp [go_sem]); have q5 : w1.cell? ⟨w.heap.size, 5, none⟩ = some (.int .i64 m.pterm) := celB hB1 (by simp [go_sem]); have q6 : w1.cell? ⟨w.heap.size, 6, none⟩ = some (.slice r6 m.entry.length k6) := celB hB1 (by simp [go_sem]); have q7 : w1.cell? ⟨w.heap.size, 7, none⟩ = some (.int .i64 m.commit) := celB hB1 (by simp [go_sem]); have q8 : w1.cell? ⟨w.heap.size, 8, none⟩ = some (.int .i64 m.mat) := celB hB1 (by simp [go_sem]); have q0 : w1.cell? ⟨w.heap.size, 0, none⟩ = some (.bool false) := celB hB1 (by simp [go_sem]); have zz := (hs.below (HB _)).below hB1; clear hB1) | (go_at_call 70; refine (goodMailEntry_r _ m _ _ _ zz hl _ g9).mono ?_; rintro r w2 ⟨rfl, hB2⟩; have BC := stRa BB hB2))
                      go_ret
                      exact ⟨ret_bool rfl, by first | exact BC | exact BB | exact HB _⟩
                    | true =>
                      have HE : Hid (okMa n m = true) := by show _ = _; rw [okMa_a h0, g1, g2, g3, g4, g5, g6, g7, g8, g9]; simp
                      rw [HE.out]
                      unfold maV
                      rw [h0]
                      go_enter Try.func54, Try.ntmps54
                      go_wp2_with (first | (go_at_call 61; refine (within_c _ _ _ _ (by first | exact g1 | exact g2 | exact g3 | exact g4 | exact g5 | exact g6 | exact g7 | exact g8 | exact g9)).mono ?_; rintro e w' ⟨rfl, rfl⟩) | (go_at_call 69; refine (goodTermAhead_r _ m _ _ _ _ g8).mono ?_; rintro r w1 ⟨rfl, hB1⟩; have BB := stRa (HB _) hB1; have q1 : w1.cell? ⟨w.heap.size, 1, none⟩ = some (.int .i64 m.fr) := celB hB1 (by simp [go_sem]); have q2 : w1.cell? ⟨w.heap.size, 2, none⟩ = some (.int .i64 m.to) := celB hB1 (by simp [go_sem]); have q3 : w1.cell? ⟨w.heap.size, 3, none⟩ = some (.int .i64 m.term) := celB hB1 (by simp [go_sem]); have q4 : w1.cell? ⟨w.heap.size, 4, none⟩ = some (.int .i64 m.prev) := celB hB1 (by simp [go_sem]); have q5 : w1.cell? ⟨w.heap.size, 5, none⟩ = some (.int .i64 m.pterm) := celB hB1 (by simp [go_sem]); have q6 : w1.cell? ⟨w.heap.size, 6, none⟩ = some (.slice r6 m.entry.length k6) := celB hB1 (by simp [go_sem]); have q7 : w1.cell? ⟨w.heap.size, 7, none⟩ = some (.int .i64 m.commit) := celB hB1 (by simp [go_sem]); have q8 : w1.cell? ⟨w.heap.size, 8, none⟩ = some (.int .i64 m.mat) := celB hB1 (by simp [go_sem]); have q0 : w1.cell? ⟨w.heap.size, 0, none⟩ = some (.bool false) := celB hB1 (by simp [go_sem]); have zz := (hs.below (HB _)).below hB1; clear hB1) | (go_at_call 70; refine (goodMailEntry_r _ m _ _ _ zz hl _ g9).mono ?_; rintro r w2 ⟨rfl, hB2⟩; have BC := stRa BB hB2))
                      go_ret
                      exact ⟨ret_bool rfl, by first | exact BC | exact BB | exact HB _⟩

theorem goodMail_c (m : Ma) (r6 : Option Addr) (k6 n : Nat) (w : World) (hs : Ens w r6 m.entry) (hl : m.entry.length ≤ maxLen) (hn : n ≤ 1000) (b : Bool) (h : okMa n m = b) :
    Calls Try.prog 54 #[maV m r6 k6, .int .i64 (n : Int)] w fun r w' => r = .returned (.bool b) ∧ Below w.heap.size w w' := by
  rw [← h]; exact goodMail_any m r6 k6 n w hs hl hn

set_option maxRecDepth 100000 in
set_option maxHeartbeats 4000000 in
theorem litMa_any (m : Ma) (r6 : Option Addr) (k6 n Bv : Nat) (w : World) (hs : Ens w r6 m.entry) (hl : m.entry.length ≤ maxLen) (hn : n ≤ 1000) (cN : w.cell? ⟨Bv, 0, none⟩ = some (.int .i64 (n : Int))) :
    Calls Try.prog 53 #[maV m r6 k6, .pointer (some ⟨Bv, 0, none⟩)] w fun r w' => r = .returned (.bool (okMa n m)) ∧ Below w.heap.size w w' := by
  have HB : ∀ o, Below w.heap.size w (w.alloc o) := fun o => alRa w o
  have d3 : ∀ o, (w.alloc o).cell? ⟨Bv, 0, none⟩ = some (.int .i64 (n : Int)) := fun o => celB (HB o) cN
  go_enter Try.func53, Try.ntmps53
  go_wp2_with fail
  refine (goodMail_any m _ _ n _ (hs.below (HB _)) hl hn).mono ?_
  rintro r w1 ⟨rfl, hB1⟩
  go_wp2
  go_ret
  exact ⟨ret_bool rfl, stRa (HB _) hB1⟩

theorem litMa_c (m : Ma) (r6 : Option Addr) (k6 n Bv : Nat) (w : World) (hs : Ens w r6 m.entry) (hl : m.entry.length ≤ maxLen) (hn : n ≤ 1000) (cN : w.cell? ⟨Bv, 0, none⟩ = some (.int .i64 (n : Int))) (b : Bool) (h : okMa n m = b) :
    Calls Try.prog 53 #[maV m r6 k6, .pointer (some ⟨Bv, 0, none⟩)] w fun r w' => r = .returned (.bool b) ∧ Below w.heap.size w w' := by
  rw [← h]; exact litMa_any m r6 k6 n Bv w hs hl hn cN

abbrev litL (Bv : Nat) : Value := .func (.func 53) #[] #[.pointer (some ⟨Bv, 0, none⟩)]

set_option maxRecDepth 100000 in
set_option maxHeartbeats 4000000 in
theorem allOfL_any (n Bv : Nat) (a : Option Addr) (c : Nat) (l : List Ma) (w : World) (hs : Mas w a l) (hl : l.length ≤ maxLen) (hn : n ≤ 1000) (cN : w.cell? ⟨Bv, 0, none⟩ = some (.int .i64 (n : Int))) :
    Calls Try.prog 52 #[.slice a l.length c, litL Bv] w fun r w' => r = .returned (.bool (l.all (okMa n))) ∧ Below w.heap.size w w' := by
  unfold maxLen at hl
  go_enter Try.func52, Try.ntmps52
  go_wp2
  go_loopw [9] (fun i wr => ∃ k : Nat, k ≤ l.length ∧ i = .int .i64 k ∧ Hid (allTo (okMa n) l k) ∧ Below w.heap.size w wr) (fun i _ => l.length - (intOf i).toNat)
  case atStart => exact ⟨0, Nat.zero_le _, rfl, allTo_zero _ _, Below.refl _ _⟩
  case round =>
    obtain ⟨k, hk, rfl, HO, hB⟩ := hrel
    by_cases hlt : k < l.length
    · obtain ⟨x, hkb⟩ := getMa hlt
      obtain ⟨b, off, rfl, r6, k6, c0, c1, c2, c3, c4, c5, c6, c7, c8, z6, m6⟩ := (hs.below hB) k _ hkb
      have dN := celB hB cN
      have HK : Hid (l[k]? = some x) := hkb
      have hki : (k : Int) < (l.length : Int) := by omega
      clear hkb
      cases g : (okMa n) x with
      | false =>
        have HE : Hid (l.all (okMa n) = false) := all_bad HK.out g
        go_wp2_with fail
        refine (litMa_c x _ _ n Bv _ (z6.below (alRa _ _)) m6 hn (celB (alRa _ _) dN) _ g).mono ?_
        rintro r w1 ⟨rfl, hB1⟩
        have BB := stRa (stRa hB (alRa _ _)) hB1
        go_wp2
        go_ret
        exact ⟨ret_bool HE.out.symm, BB⟩
      | true =>
        have HN : Hid (allTo (okMa n) l (k + 1)) := allTo_succ HO.out HK.out g
        go_wp2_with fail
        refine (litMa_c x _ _ n Bv _ (z6.below (alRa _ _)) m6 hn (celB (alRa _ _) dN) _ g).mono ?_
        rintro r w1 ⟨rfl, hB1⟩
        have BB := stRa (stRa hB (alRa _ _)) hB1
        go_wp2
        go_roundw
        case rel => exact ⟨k + 1, by omega, by go_num, HN.out, BB⟩
        case measure => simp [intOf]; omega
    · obtain rfl : k = l.length := by omega
      have HE : Hid (l.all (okMa n) = true) := all_done HO.out
      go_wp2
      go_ret
      exact ⟨ret_bool HE.out.symm, hB⟩

theorem allOfL_c (n Bv : Nat) (a : Option Addr) (c : Nat) (l : List Ma) (w : World) (hs : Mas w a l) (hl : l.length ≤ maxLen) (hn : n ≤ 1000) (cN : w.cell? ⟨Bv, 0, none⟩ = some (.int .i64 (n : Int))) (b : Bool) (h : l.all (okMa n) = b) :
    Calls Try.prog 52 #[.slice a l.length c, litL Bv] w fun r w' => r = .returned (.bool b) ∧ Below w.heap.size w w' := by
  rw [← h]; exact allOfL_any n Bv a c l w hs hl hn cN

set_option maxRecDepth 100000 in
set_option maxHeartbeats 4000000 in
theorem implGoodRa0_any (s : Ra) (a0 a1 : Option Addr) (c0 c1 : Nat) (w : World) (hs : RaR w s a0 a1) (hl : RaL s) :
    Calls Try.prog 17 #[raV s a0 c0 a1 c1] w fun r w' => r = .returned (.bool (goodRa s)) ∧ Below w.heap.size w w' := by
  have HB : ∀ x y, Below w.heap.size w ((w.alloc x).alloc y) := fun _ _ => ((Below.refl _ _).alloc (Nat.le_refl _) _).alloc (by simp) _
  have hl0 := hl.prs
  have hl1 := hl.mail
  unfold maxLen at hl0 hl1
  cases g1 : inB s.prs.length 1 5 with
  | false =>
    have HE : Hid (goodRa s = false) := by show _ = _; rw [goodRa_is, g1]; simp
    rw [HE.out]
    go_enter Try.func17, Try.ntmps17
    go_wp2_with (first | (go_at_call 36; refine (oneUpTo_c _ _ _ _ g1).mono ?_; rintro e w' ⟨rfl, rfl⟩) | (go_at_call 49; refine (allOfP_c s.prs.length (w.heap.size + 1) _ _ _ _ (hs.prs.below (HB _ _)) hl.prs (by simp [go_sem]) _ g3).mono ?_; rintro r w1 ⟨rfl, hB1⟩; have BB := stRa (HB _ _) hB1; have qm : w1.cell? ⟨w.heap.size, 1, none⟩ = some (.slice a1 s.mail.length c1) := celB hB1 (by simp [go_sem]); have qn : w1.cell? ⟨w.heap.size + 1, 0, none⟩ = some (.int .i64 (s.prs.length : Int)) := celB hB1 (by simp [go_sem]); have zm := hs.mail.below BB; clear hB1) | (go_at_call 52; refine (allOfL_c s.prs.length (w.heap.size + 1) _ _ _ _ zm hl.mail hn qn _ g4).mono ?_; rintro r w2 ⟨rfl, hB2⟩; have BC := stRa BB hB2))
    go_ret
    exact ⟨ret_bool rfl, by first | exact BC | exact BB | exact HB _ _⟩
  | true =>
    cases g2 : decide (s.mail.length ≤ 20) with
    | false =>
      have HE : Hid (goodRa s = false) := by show _ = _; rw [goodRa_is, g1, g2]; simp
      have hn : s.prs.length ≤ 1000 := by have := inB_t.1 g1; omega
      have g2' : (20 : Int) < (s.mail.length : Int) := by have := of_decide_eq_false g2; omega
      clear g2
      rw [HE.out]
      go_enter Try.func17, Try.ntmps17
      go_wp2_with (first | (go_at_call 36; refine (oneUpTo_c _ _ _ _ g1).mono ?_; rintro e w' ⟨rfl, rfl⟩) | (go_at_call 49; refine (allOfP_c s.prs.length (w.heap.size + 1) _ _ _ _ (hs.prs.below (HB _ _)) hl.prs (by simp [go_sem]) _ g3).mono ?_; rintro r w1 ⟨rfl, hB1⟩; have BB := stRa (HB _ _) hB1; have qm : w1.cell? ⟨w.heap.size, 1, none⟩ = some (.slice a1 s.mail.length c1) := celB hB1 (by simp [go_sem]); have qn : w1.cell? ⟨w.heap.size + 1, 0, none⟩ = some (.int .i64 (s.prs.length : Int)) := celB hB1 (by simp [go_sem]); have zm := hs.mail.below BB; clear hB1) | (go_at_call 52; refine (allOfL_c s.prs.length (w.heap.size + 1) _ _ _ _ zm hl.mail hn qn _ g4).mono ?_; rintro r w2 ⟨rfl, hB2⟩; have BC := stRa BB hB2))
      go_ret
      exact ⟨ret_bool rfl, by first | exact BC | exact BB | exact HB _ _⟩
    | true =>
      cases g3 : s.prs.all (okPe s.prs.length) with
      | false =>
        have HE : Hid (goodRa s = false) := by show _ = _; rw [goodRa_is, g1, g2, g3]; simp
        have hn : s.prs.length ≤ 1000 := by have := inB_t.1 g1; omega
        have g2' : (s.mail.length : Int) ≤ 20 := by have := of_decide_eq_true g2; omega
        clear g2
        rw [HE.out]
        go_enter Try.func17, Try.ntmps17
        go_wp2_with (first | (go_at_call 36; refine (oneUpTo_c _ _ _ _ g1).mono ?_; rintro e w' ⟨rfl, rfl⟩) | (go_at_call 49; refine (allOfP_c s.prs.length (w.heap.size + 1) _ _ _ _ (hs.prs.below (HB _ _)) hl.prs (by simp [go_sem]) _ g3).mono ?_; rintro r w1 ⟨rfl, hB1⟩; have BB := stRa (HB _ _) hB1; have qm : w1.cell? ⟨w.heap.size, 1, none⟩ = some (.slice a1 s.mail.length c1) := celB hB1 (by simp [go_sem]); have qn : w1.cell? ⟨w.heap.size + 1, 0, none⟩ = some (.int .i64 (s.prs.length : Int)) := celB hB1 (by simp [go_sem]); have zm := hs.mail.below BB; clear hB1) | (go_at_call 52; refine (allOfL_c s.prs.length (w.heap.size + 1) _ _ _ _ zm hl.mail hn qn _ g4).mono ?_; rintro r w2 ⟨rfl, hB2⟩; have BC := stRa BB hB2))
        go_ret
        exact ⟨ret_bool rfl, by first | exact BC | exact BB | exact HB _ _⟩
      | true =>
        cases g4 : s.mail.all (okMa s.prs.length) with
        | false =>
          have HE : Hid (goodRa s = false) := by show _ = _; rw [goodRa_is, g1, g2, g3, g4]; simp
          have hn : s.prs.length ≤ 1000 := by have := inB_t.1 g1; omega
          have g2' : (s.mail.length : Int) ≤ 20 := by have := of_decide_eq_true g2; omega
          clear g2
          rw [HE.out]
          go_enter Try.func17, Try.ntmps17
          go_wp2_with (first | (go_at_call 36; refine (oneUpTo_c _ _ _ _ g1).mono ?_; rintro e w' ⟨rfl, rfl⟩) | (go_at_call 49; refine (allOfP_c s.prs.length (w.heap.size + 1) _ _ _ _ (hs.prs.below (HB _ _)) hl.prs (by simp [go_sem]) _ g3).mono ?_; rintro r w1 ⟨rfl, hB1⟩; have BB := stRa (HB _ _) hB1; have qm : w1.cell? ⟨w.heap.size, 1, none⟩ = some (.slice a1 s.mail.length c1) := celB hB1 (by simp [go_sem]); have qn : w1.cell? ⟨w.heap.size + 1, 0, none⟩ = some (.int .i64 (s.prs.length : Int)) := celB hB1 (by simp [go_sem]); have zm := hs.mail.below BB; clear hB1) | (go_at_call 52; refine (allOfL_c s.prs.length (w.heap.size + 1) _ _ _ _ zm hl.mail hn qn _ g4).mono ?_; rintro r w2 ⟨rfl, hB2⟩; have BC := stRa BB hB2))
          go_ret
          exact ⟨ret_bool rfl, by first | exact BC | exact BB | exact HB _ _⟩
        | true =>
          have HE : Hid (goodRa s = true) := by show _ = _; rw [goodRa_is, g1, g2, g3, g4]; simp
          have hn : s.prs.length ≤ 1000 := by have := inB_t.1 g1; omega
          have g2' : (s.mail.length : Int) ≤ 20 := by have := of_decide_eq_true g2; omega
          clear g2
          rw [HE.out]
          go_enter Try.func17, Try.ntmps17
          go_wp2_with (first | (go_at_call 36; refine (oneUpTo_c _ _ _ _ g1).mono ?_; rintro e w' ⟨rfl, rfl⟩) | (go_at_call 49; refine (allOfP_c s.prs.length (w.heap.size + 1) _ _ _ _ (hs.prs.below (HB _ _)) hl.prs (by simp [go_sem]) _ g3).mono ?_; rintro r w1 ⟨rfl, hB1⟩; have BB := stRa (HB _ _) hB1; have qm : w1.cell? ⟨w.heap.size, 1, none⟩ = some (.slice a1 s.mail.length c1) := celB hB1 (by simp [go_sem]); have qn : w1.cell? ⟨w.heap.size + 1, 0, none⟩ = some (.int .i64 (s.prs.length : Int)) := celB hB1 (by simp [go_sem]); have zm := hs.mail.below BB; clear hB1) | (go_at_call 52; refine (allOfL_c s.prs.length (w.heap.size + 1) _ _ _ _ zm hl.mail hn qn _ g4).mono ?_; rintro r w2 ⟨rfl, hB2⟩; have BC := stRa BB hB2))
          go_ret
          exact ⟨ret_bool rfl, by first | exact BC | exact BB | exact HB _ _⟩

theorem implGoodRa0_c (s : Ra) (a0 a1 : Option Addr) (c0 c1 : Nat) (w : World) (hs : RaR w s a0 a1) (hl : RaL s) (b : Bool) (h : goodRa s = b) :
    Calls Try.prog 17 #[raV s a0 c0 a1 c1] w fun r w' => r = .returned (.bool b) ∧ Below w.heap.size w w' := by
  rw [← h]; exact implGoodRa0_any s a0 a1 c0 c1 w hs hl

theorem implGoodRa_c (s : Ra) (a0 a1 : Option Addr) (c0 c1 : Nat) (w : World) (hs : RaR w s a0 a1) (hl : RaL s) (b : Bool) (h : goodRa s = b) :
    Calls Try.prog 17 #[raV s a0 c0 a1 c1] w fun r w' => r = .returned (.bool b) ∧ Below w.heap.size w w' := implGoodRa0_c s a0 a1 c0 c1 w hs hl b h
theorem implGoodRa_any (s : Ra) (a0 a1 : Option Addr) (c0 c1 : Nat) (w : World) (hs : RaR w s a0 a1) (hb : RaB s) :
    Calls Try.prog 17 #[raV s a0 c0 a1 c1] w fun e w' => e = .returned (.bool (goodRa s)) ∧ Below w.heap.size w w' := implGoodRa0_any s a0 a1 c0 c1 w hs hb.len

end Go.Proofs.Ytglncbhbeikclaa
