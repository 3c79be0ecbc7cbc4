/-
  Elections, the program's side: impl.goodServers, goodLed, goodPost. Made by mkeli.py.
-/
import Derived.Test.YtjicphdjipihfaaElI1
namespace Go.Proofs.Ytjicphdjipihfaa
open Go.RowKit

theorem goodGot_c (x : Sv) (r4 r5 : Option Addr) (k4 k5 n : Nat) (b : Bool) (w : World) (h4 : Ints w r4 x.got) (l4 : x.got.length ≤ maxLen) (hn : n ≤ 7) (h : okGot n x = b) :
    Calls Try.prog 72 #[svV x r4 k4 r5 k5, .int .i64 (n : Int)] w fun e w' => e = .returned (.bool b) ∧ Below w.heap.size w w' := by
  rw [← h]; exact goodGot_any x r4 r5 k4 k5 n w h4 l4 hn

theorem goodEnds_c (m : Lt) (n : Nat) (b : Bool) (w : World) (hn : n ≤ 1000) (h : okEnds n m = b) :
    Calls Try.prog 73 #[ltV m, .int .i64 (n : Int)] w fun e w' => e = .returned (.bool b) ∧ Below w.heap.size w w' := by
  rw [← h]; exact goodEnds_any m n w hn

set_option maxRecDepth 100000 in
set_option maxHeartbeats 4000000 in
theorem goodServers_any (l : List Sv) (a : Option Addr) (c : Nat) (w : World) (hs : Svs w a l) (hl : l.length ≤ 7) :
    Calls Try.prog 56 #[.slice a l.length c] w fun e w' => e = .returned (.bool (l.all (okSv l.length))) ∧ Below w.heap.size w w' := by
  go_enter Try.func56, Try.ntmps56
  go_wp2
  go_loopw [7] (fun i wr => ∃ k : Nat, k ≤ l.length ∧ i = .int .i64 k ∧ Hid (allTo (okSv l.length) l k) ∧ Below w.heap.size w wr) (fun i _ => l.length - (intOf i).toNat)
  case atStart => exact ⟨0, Nat.zero_le _, rfl, allTo_zero _ _, Below.refl _ _⟩
  case round =>
    obtain ⟨k, hk, rfl, HO, hB⟩ := hrel
    by_cases hlt : k < l.length
    · obtain ⟨b, hkb⟩ := getSv hlt
      obtain ⟨kb, ob, rfl, r4, k4, r5, k5, e0, e1, e2, e3, e4, e5, z4, m4, z5, m5⟩ := (hs.below hB) k b hkb
      have HK : Hid (l[k]? = some b) := hkb
      have hki : (k : Int) < (l.length : Int) := by omega
      have HS : Hid (okSv l.length b = (inB b.term 0 100 && (decide (-1 ≤ b.voted) && (decide (b.voted < (l.length : Int)) && (okGot l.length b && goodE b.log))))) := okSv_is _ _
      clear hkb hs
      cases g1 : inB b.term 0 100 with
      | false =>
        have HE : Hid (l.all (okSv l.length) = false) := all_bad HK.out (by rw [HS.out, g1]; rfl)
        go_wp2_with (go_at_call 61; refine (within_c _ _ _ _ g1).mono ?_; rintro e w' ⟨rfl, rfl⟩)
        go_ret
        exact ⟨ret_bool HE.out.symm, stEl hB (alEl _ _)⟩
      | true =>
        by_cases g2 : -1 ≤ b.voted
        · by_cases g3 : b.voted < (l.length : Int)
          · have HS2 : Hid (okSv l.length b = (okGot l.length b && goodE b.log)) := by show _ = _; rw [HS.out, g1, decide_eq_true g2, decide_eq_true g3]; rfl
            cases g4 : okGot l.length b with
            | false =>
              have HE : Hid (l.all (okSv l.length) = false) := all_bad HK.out (by rw [HS2.out, g4]; rfl)
              go_wp2_with (first | (go_at_call 61; refine (within_c _ _ _ _ g1).mono ?_; rintro e w' ⟨rfl, rfl⟩) | (go_at_call 72; refine (goodGot_c b _ _ _ _ _ _ _ (z4.below (alEl _ _)) m4 hl g4).mono ?_; rintro r w1 ⟨rfl, hB1⟩; have BB := stEl (stEl hB (alEl _ _)) hB1))
              go_ret
              exact ⟨ret_bool HE.out.symm, BB⟩
            | true =>
              cases g5 : goodE b.log with
              | false =>
                have HE : Hid (l.all (okSv l.length) = false) := all_bad HK.out (by rw [HS2.out, g5]; simp)
                go_wp2_with (first | (go_at_call 61; refine (within_c _ _ _ _ g1).mono ?_; rintro e w' ⟨rfl, rfl⟩) | (go_at_call 72; refine (goodGot_c b _ _ _ _ _ _ _ (z4.below (alEl _ _)) m4 hl g4).mono ?_; rintro r w1 ⟨rfl, hB1⟩; have BB := stEl (stEl hB (alEl _ _)) hB1; have zz := (z5.below (alEl _ _)).below hB1; have q5 : w1.cell? ⟨wr.heap.size, 5, none⟩ = some (.slice r5 b.log.length k5) := celB hB1 (by simp [go_sem])) | (go_at_call 34; refine (implGoodE_c _ _ _ _ _ zz m5 g5).mono ?_; rintro e w' ⟨rfl, rfl⟩))
                go_ret
                exact ⟨ret_bool HE.out.symm, BB⟩
              | true =>
                have HN : Hid (allTo (okSv l.length) l (k + 1)) := allTo_succ HO.out HK.out (by rw [HS2.out, g4, g5]; rfl)
                go_wp2_with (first | (go_at_call 61; refine (within_c _ _ _ _ g1).mono ?_; rintro e w' ⟨rfl, rfl⟩) | (go_at_call 72; refine (goodGot_c b _ _ _ _ _ _ _ (z4.below (alEl _ _)) m4 hl g4).mono ?_; rintro r w1 ⟨rfl, hB1⟩; have BB := stEl (stEl hB (alEl _ _)) hB1; have zz := (z5.below (alEl _ _)).below hB1; have q5 : w1.cell? ⟨wr.heap.size, 5, none⟩ = some (.slice r5 b.log.length k5) := celB hB1 (by simp [go_sem])) | (go_at_call 34; refine (implGoodE_c _ _ _ _ _ zz m5 g5).mono ?_; rintro e w' ⟨rfl, rfl⟩))
                go_roundw
                case rel => exact ⟨k + 1, by omega, by go_num, HN.out, BB⟩
                case measure => simp [intOf]; omega
          · have HE : Hid (l.all (okSv l.length) = false) := all_bad HK.out (by rw [HS.out, decide_eq_false g3]; simp)
            have g3' : (l.length : Int) ≤ b.voted := by omega
            go_wp2_with (go_at_call 61; refine (within_c _ _ _ _ g1).mono ?_; rintro e w' ⟨rfl, rfl⟩)
            go_ret
            exact ⟨ret_bool HE.out.symm, stEl hB (alEl _ _)⟩
        · have HE : Hid (l.all (okSv l.length) = false) := all_bad HK.out (by rw [HS.out, decide_eq_false g2]; simp)
          have g2' : b.voted < -1 := by omega
          go_wp2_with (go_at_call 61; refine (within_c _ _ _ _ g1).mono ?_; rintro e w' ⟨rfl, rfl⟩)
          go_ret
          exact ⟨ret_bool HE.out.symm, stEl hB (alEl _ _)⟩
    · obtain rfl : k = l.length := by omega
      have HE : Hid (l.all (okSv l.length) = true) := all_done HO.out
      go_wp2
      go_ret
      exact ⟨ret_bool HE.out.symm, hB⟩

set_option maxRecDepth 100000 in
set_option maxHeartbeats 4000000 in
theorem goodLed_any (l : List Vt) (n : Nat) (a : Option Addr) (c : Nat) (w : World) (hs : Vts w a l) (hl : l.length ≤ maxLen) (hn : n ≤ 1000) :
    Calls Try.prog 58 #[.slice a l.length c, .int .i64 (n : Int)] w fun e w' => e = .returned (.bool (decide (l.length ≤ 80) && l.all (okVt n))) ∧ Below w.heap.size w w' := by
  unfold maxLen at hl
  by_cases h80 : l.length ≤ 80
  · rw [decide_eq_true h80, Bool.true_and]
    have h80' : (l.length : Int) ≤ 80 := by omega
    go_enter Try.func58, Try.ntmps58
    go_wp2
    go_loopw [12] (fun i wr => ∃ k : Nat, k ≤ l.length ∧ i = .int .i64 k ∧ Hid (allTo (okVt n) l k) ∧ Below w.heap.size w wr) (fun i _ => l.length - (intOf i).toNat)
    case atStart => exact ⟨0, Nat.zero_le _, rfl, allTo_zero _ _, Below.refl _ _⟩
    case round =>
      obtain ⟨k, hk, rfl, HO, hB⟩ := hrel
      by_cases hlt : k < l.length
      · obtain ⟨b, hkb⟩ := getVt hlt
        obtain ⟨kb, ob, rfl, e0, e1⟩ := (hs.below hB) k b hkb
        have HK : Hid (l[k]? = some b) := hkb
        have hki : (k : Int) < (l.length : Int) := by omega
        clear hkb
        cases g1 : inB b.term 0 100 with
        | false =>
          have HE : Hid (l.all (okVt n) = false) := all_bad HK.out (by simp [okVt, g1])
          go_wp2_with (go_at_call 61; refine (within_c _ _ _ _ g1).mono ?_; rintro e w' ⟨rfl, rfl⟩)
          go_ret
          exact ⟨ret_bool HE.out.symm, stEl hB (alEl _ _)⟩
        | true =>
          cases g2 : inB b.ldr 0 ((n : Int) - 1) with
          | false =>
            have HE : Hid (l.all (okVt n) = false) := all_bad HK.out (by rw [thB_in] at g2; simp [okVt, g2])
            go_wp2_with (go_at_call 61; refine (within_c _ _ _ _ (by first | exact g1 | exact g2)).mono ?_; rintro e w' ⟨rfl, rfl⟩)
            go_ret
            exact ⟨ret_bool HE.out.symm, stEl hB (alEl _ _)⟩
          | true =>
            have HN : Hid (allTo (okVt n) l (k + 1)) := allTo_succ HO.out HK.out (by rw [thB_in] at g2; simp [okVt, g1, g2])
            go_wp2_with (go_at_call 61; refine (within_c _ _ _ _ (by first | exact g1 | exact g2)).mono ?_; rintro e w' ⟨rfl, rfl⟩)
            go_roundw
            case rel => exact ⟨k + 1, by omega, by go_num, HN.out, stEl hB (alEl _ _)⟩
            case measure => simp [intOf]; omega
      · obtain rfl : k = l.length := by omega
        have HE : Hid (l.all (okVt n) = true) := all_done HO.out
        go_wp2
        go_ret
        exact ⟨ret_bool HE.out.symm, hB⟩
  · rw [decide_eq_false h80]
    have h80' : (80 : Int) < (l.length : Int) := by omega
    go_enter Try.func58, Try.ntmps58
    go_wp2
    go_ret
    exact ⟨ret_bool rfl, Below.refl _ _⟩

def okKind (m : Lt) : Bool := if m.asks = true then !m.grant && (inB m.last (-1) 100 && inB m.long 0 30) else decide (m.last = 0) && decide (m.long = 0)

theorem okLt_is (svs : List Sv) (m : Lt) : okLt svs m = (okEnds svs.length m && (inB m.term 0 (svA svs m.fr.toNat).term && okKind m)) := by
  unfold okLt okEnds okKind
  cases thB svs.length m.to <;> cases thB svs.length m.fr <;> cases decide (m.to = m.fr) <;> simp

theorem okLt_1 {svs : List Sv} {m : Lt} (h : okEnds svs.length m = false) : okLt svs m = false := by rw [okLt_is, h]; rfl
theorem okLt_2 {svs : List Sv} {m : Lt} (h : inB m.term 0 (svA svs m.fr.toNat).term = false) : okLt svs m = false := by rw [okLt_is, h]; simp
theorem okLt_3 {svs : List Sv} {m : Lt} (h1 : okEnds svs.length m = true) (h : inB m.term 0 (svA svs m.fr.toNat).term = true) : okLt svs m = okKind m := by rw [okLt_is, h1, h]; rfl
theorem okEnds_fr {n : Nat} {m : Lt} (h : okEnds n m = true) : 0 ≤ m.fr ∧ m.fr < n := by
  unfold okEnds at h
  simp only [Bool.and_eq_true] at h
  exact thB_t.1 h.2.1

theorem asks_c (m : Lt) (b : Bool) (w : World) (h : m.asks = true) (hb : okKind m = b) :
    Calls Try.prog 94 #[ltV m] w fun e w' => e = .returned (.bool b) ∧ Below w.heap.size w w' := by
  rw [← hb, okKind, if_pos h]; exact asks_any m w
theorem answers_c (m : Lt) (b : Bool) (w : World) (h : m.asks = false) (hb : okKind m = b) :
    Calls Try.prog 95 #[ltV m] w fun e w' => e = .returned (.bool b) ∧ Below w.heap.size w w' := by
  rw [← hb, okKind, if_neg (by simp [h])]; exact answers_any m w
theorem posted_t (m : Lt) (w : World) (h : m.asks = true) :
    Calls Try.prog 74 #[ltV m] w fun e w' => e = .returned (.iface 110 (ltV m)) ∧ Below w.heap.size w w' :=
  (postedBy_any m w).mono fun _ _ ⟨e, hb⟩ => ⟨by rw [e, poV, if_pos h], hb⟩
theorem posted_f (m : Lt) (w : World) (h : m.asks = false) :
    Calls Try.prog 74 #[ltV m] w fun e w' => e = .returned (.iface 111 (ltV m)) ∧ Below w.heap.size w w' :=
  (postedBy_any m w).mono fun _ _ ⟨e, hb⟩ => ⟨by rw [e, poV, if_neg (by simp [h])], hb⟩

end Go.Proofs.Ytjicphdjipihfaa
