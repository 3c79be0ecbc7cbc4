/-
  Rafts, the program's side: impl.LogsMatch. Made by mkrai3.py.
-/
import Derived.Test.YtglncbhbeikclaaRaI1
import Derived.Test.YtglncbhbeikclaaRaLM
import Derived.BigQuiet
namespace Go.Proofs.Ytglncbhbeikclaa
open Go.RowKit

theorem lmL_end (a b : List En) : ∀ k, b.length ≤ k → lmL a b k = lmL a b b.length
  | 0, h => by rw [Nat.le_zero.1 h]
  | k + 1, h => by
    by_cases h1 : b.length = k + 1
    · rw [h1]
    · rw [lmL_f (fun g => by omega)]
      exact lmL_end a b k (by omega)

set_option maxHeartbeats 1000000 in
theorem termAhead_any (a : Option Addr) (c : Nat) (l : List En) (j : Nat) (t : Int) (w : World) (hs : Ens w a l) (hj : j < l.length) (hl : l.length ≤ 1000000) (ht : (enA l j).term = t) :
    Calls Try.prog 74 #[.slice a l.length c, .int .i64 ((j + 1 : Nat) : Int)] w fun r w' => r = .returned (.int .i64 t) ∧ Below w.heap.size w w' := by
  obtain ⟨b, off, rfl, c0, c1⟩ := hs j _ (enA_get hj)
  obtain ⟨x, hx⟩ : ∃ x, enA l j = x := ⟨_, rfl⟩
  rw [hx] at c0 c1 ht
  have HT : Hid (x.term = t) := ht
  have hz : (((j + 1 : Nat) : Int) == 0) = false := by simp; omega
  have hj1 : ((j + 1 : Nat) : Int) - 1 = (j : Int) := by omega
  have hji : (j : Int) < (l.length : Int) := by omega
  clear hs hx ht
  go_enter Try.func74, Try.ntmps74
  go_wp2_with fail
  refine (term_any x _).mono ?_
  rintro r w1 ⟨rfl, hB1⟩
  go_wp2
  go_ret
  exact ⟨by rw [HT.out]; rfl, hB1⟩

set_option maxRecDepth 100000 in
set_option maxHeartbeats 4000000 in
theorem equalE_any (a a2 : Option Addr) (m c c2 : Nat) (xs ys : List En) (w : World) (hx : Ens w a xs) (hy : Ens w a2 ys) (h1 : m ≤ xs.length) (h2 : m ≤ ys.length) (hm : m ≤ 1000000) :
    Calls Try.prog 75 #[.slice a m c, .slice a2 m c2] w fun r w' => r = .returned (.bool (decide (lmTo xs ys m))) ∧ ∃ n, w' = w.drewN n := by
  have hne := enNe_run
  have hgd := enGuard
  have hmm : ((m : Int) != (m : Int)) = false := by simp
  go_enter Try.func75, Try.ntmps75
  go_wp2
  go_loopw [13] (fun i wr => ∃ k n : Nat, k ≤ m ∧ i = .int .i64 k ∧ Hid (lmTo xs ys k) ∧ wr = w.drewN n) (fun i _ => m - (intOf i).toNat)
  case atStart => exact ⟨0, 0, Nat.zero_le _, rfl, (fun i hi => absurd hi (Nat.not_lt_zero _)), rfl⟩
  case round =>
    obtain ⟨k, n, hk, rfl, HO, rfl⟩ := hrel
    by_cases hlt : k < m
    · obtain ⟨kb, ob, rfl, x0, x1⟩ := hx k _ (enA_get (by omega))
      obtain ⟨x, hxe⟩ : ∃ x, enA xs k = x := ⟨_, rfl⟩
      have HX : Hid (enA xs k = x) := hxe
      rw [hxe] at x0 x1
      clear hxe
      obtain ⟨kb2, ob2, rfl, y0, y1⟩ := hy k _ (enA_get (by omega))
      obtain ⟨y, hye⟩ : ∃ y, enA ys k = y := ⟨_, rfl⟩
      have HY : Hid (enA ys k = y) := hye
      rw [hye] at y0 y1
      clear hye
      have hkn : (k : Int) < (m : Int) := by omega
      by_cases hxy : x = y
      · subst hxy
        have HT : Hid (lmTo xs ys (k + 1)) := lmTo_succ HO.out (by rw [HX.out, HY.out])
        have hb : (!(decide (x.term = x.term) && decide (x.val = x.val))) = false := by simp
        clear hx hy HO
        go_wp2
        go_quiet (fail)
        go_wp2
        go_roundw
        case rel => exact ⟨k + 1, n + nq, by omega, by go_num, HT.out, by simp⟩
        case measure => simp [intOf]; omega
      · have HE : Hid (decide (lmTo xs ys m) = false) := by
          show _ = _
          exact decide_eq_false (fun h => hxy (by rw [← HX.out, ← HY.out]; exact h k hlt))
        have hb : (!(decide (x.term = y.term) && decide (x.val = y.val))) = true := by
          rw [Bool.not_eq_true', Bool.and_eq_false_iff, decide_eq_false_iff_not, decide_eq_false_iff_not]
          by_cases h : x.term = y.term
          · exact .inr (fun h2 => hxy (by cases x; cases y; simp_all))
          · exact .inl h
        clear hx hy HO hxy
        have hnx := hne x.term x.val y.term y.val
        rw [hb] at hnx
        clear hb hne
        go_wp2
        go_quiet (fail)
        go_wp2
        go_ret
        exact ⟨ret_bool HE.out.symm, n + nq, by simp⟩
    · obtain rfl : k = m := by omega
      have HE : Hid (decide (lmTo xs ys k) = true) := decide_eq_true HO.out
      clear hx hy HO
      go_wp2
      go_ret
      exact ⟨ret_bool HE.out.symm, n, rfl⟩

theorem equalE_c (a a2 : Option Addr) (m c c2 : Nat) (xs ys : List En) (w : World) (hx : Ens w a xs) (hy : Ens w a2 ys) (h1 : m ≤ xs.length) (h2 : m ≤ ys.length) (hm : m ≤ 1000000) (b : Bool) (h : decide (lmTo xs ys m) = b) :
    Calls Try.prog 75 #[.slice a m c, .slice a2 m c2] w fun r w' => r = .returned (.bool b) ∧ ∃ n, w' = w.drewN n := by
  rw [← h]; exact equalE_any a a2 m c c2 xs ys w hx hy h1 h2 hm

set_option maxRecDepth 100000 in
set_option maxHeartbeats 4000000 in
theorem matchUp_any (a a2 : Option Addr) (c c2 : Nat) (xs ys : List En) (w : World) (hx : Ens w a xs) (hy : Ens w a2 ys) (hl : xs.length ≤ 1000000) (hm : ys.length ≤ 1000000) (hc : xs.length ≤ c) (hc2 : ys.length ≤ c2) (b : Bool) (hb : decide (lmTo xs ys (lmL xs ys xs.length)) = b) :
    Calls Try.prog 59 #[.slice a xs.length c, .slice a2 ys.length c2] w fun r w' => r = .returned (.bool b) ∧ Below w.heap.size w w' := by
  have HB : Hid (decide (lmTo xs ys (lmL xs ys xs.length)) = b) := hb
  clear hb
  by_cases hlt0 : (ys.length : Int) < (xs.length : Int)
  · go_enter Try.func59, Try.ntmps59
    go_wp2
    go_loopw [5] (fun z wr => ∃ m : Nat, z = .int .i64 m ∧ m ≤ xs.length ∧ m ≤ ys.length ∧ Hid (lmL xs ys xs.length = lmL xs ys m) ∧ Below w.heap.size w wr) (fun z _ => (intOf z).toNat)
    case atStart => exact ⟨ys.length, rfl, by omega, by omega, lmL_end xs ys _ (by omega), Below.refl _ _⟩
    case round =>
      obtain ⟨m, rfl, hmx, hmy, HL, hB⟩ := hrel
      have hxW := hx.below hB
      have hyW := hy.below hB
      rcases Nat.eq_zero_or_pos m with h0 | h0
      · subst h0
        have HE : Hid (decide (lmTo xs ys 0) = b) := by show _ = _; rw [← HB.out, HL.out]; rfl
        clear hx hy
        have hc0 : (0 : Int) ≤ (c : Int) := by omega
        have hd0 : (0 : Int) ≤ (c2 : Int) := by omega
        go_wp2
        go_quiet ((go_at_call 75; exact Calls.quiet_of (equalE_c _ _ 0 _ _ xs ys _ (hxW.below (below_drewN (Below.refl _ _) _)) (hyW.below (below_drewN (Below.refl _ _) _)) hmx hmy (by omega) _ HE.out)))
        go_wp2
        go_ret
        exact ⟨ret_bool rfl, below_drewN hB nq⟩
      · obtain ⟨j, rfl⟩ : ∃ j, m = j + 1 := ⟨m - 1, by omega⟩
        have hz : (0 : Int) < (((j + 1 : Nat) : Int)) := by omega
        have hj1 : ((j + 1 : Nat) : Int) - 1 = (j : Int) := by omega
        obtain ⟨s, hs⟩ : ∃ s, (enA xs j).term = s := ⟨_, rfl⟩
        obtain ⟨t, ht⟩ : ∃ t, (enA ys j).term = t := ⟨_, rfl⟩
        have HS : Hid ((enA xs j).term = s) := hs
        have HT : Hid ((enA ys j).term = t) := ht
        clear hs ht hx hy
        by_cases hst : s = t
        · have hd : (s != t) = false := by simp [hst]
          have HE : Hid (decide (lmTo xs ys (j + 1)) = b) := by show _ = _; rw [← HB.out, HL.out, lmL_t (by omega) (by rw [HS.out, HT.out]; exact hst)]
          clear hst
          go_wp2_with fail
          refine (termAhead_any _ _ xs j s _ hxW (by omega) hl HS.out).mono ?_
          rintro r w1 ⟨rfl, hB1⟩
          go_wp2_with fail
          refine (termAhead_any _ _ ys j t _ (hyW.below hB1) (by omega) hm HT.out).mono ?_
          rintro r w2 ⟨rfl, hB2⟩
          have BB := stRa (stRa hB hB1) hB2
          have hx2 := hxW.below (stRa hB1 hB2)
          have hy2 := hyW.below (stRa hB1 hB2)
          clear hB1 hB2 hB hxW hyW
          have hc0 : (((j + 1 : Nat) : Int)) ≤ (c : Int) := by omega
          have hd0 : (((j + 1 : Nat) : Int)) ≤ (c2 : Int) := by omega
          go_wp2
          go_quiet ((go_at_call 75; exact Calls.quiet_of (equalE_c _ _ (j + 1) _ _ xs ys _ (hx2.below (below_drewN (Below.refl _ _) _)) (hy2.below (below_drewN (Below.refl _ _) _)) hmx hmy (by omega) _ HE.out)))
          go_wp2
          go_ret
          exact ⟨ret_bool rfl, below_drewN BB nq⟩
        · have hd : (s != t) = true := by simp [hst]
          have HE : Hid (lmL xs ys xs.length = lmL xs ys j) := by show _ = _; rw [HL.out, lmL_f (fun g => hst (by rw [← HS.out, ← HT.out]; exact g.2))]
          clear hst
          go_wp2_with fail
          refine (termAhead_any _ _ xs j s _ hxW (by omega) hl HS.out).mono ?_
          rintro r w1 ⟨rfl, hB1⟩
          go_wp2_with fail
          refine (termAhead_any _ _ ys j t _ (hyW.below hB1) (by omega) hm HT.out).mono ?_
          rintro r w2 ⟨rfl, hB2⟩
          have BB := stRa (stRa hB hB1) hB2
          clear hB1 hB2 hB hxW hyW
          go_wp2
          go_roundw
          case rel => exact ⟨j, by go_num, by omega, by omega, HE.out, BB⟩
          case measure => simp [intOf]
  · go_enter Try.func59, Try.ntmps59
    go_wp2
    go_loopw [5] (fun z wr => ∃ m : Nat, z = .int .i64 m ∧ m ≤ xs.length ∧ m ≤ ys.length ∧ Hid (lmL xs ys xs.length = lmL xs ys m) ∧ Below w.heap.size w wr) (fun z _ => (intOf z).toNat)
    case atStart => exact ⟨xs.length, rfl, by omega, by omega, rfl, Below.refl _ _⟩
    case round =>
      obtain ⟨m, rfl, hmx, hmy, HL, hB⟩ := hrel
      have hxW := hx.below hB
      have hyW := hy.below hB
      rcases Nat.eq_zero_or_pos m with h0 | h0
      · subst h0
        have HE : Hid (decide (lmTo xs ys 0) = b) := by show _ = _; rw [← HB.out, HL.out]; rfl
        clear hx hy
        have hc0 : (0 : Int) ≤ (c : Int) := by omega
        have hd0 : (0 : Int) ≤ (c2 : Int) := by omega
        go_wp2
        go_quiet ((go_at_call 75; exact Calls.quiet_of (equalE_c _ _ 0 _ _ xs ys _ (hxW.below (below_drewN (Below.refl _ _) _)) (hyW.below (below_drewN (Below.refl _ _) _)) hmx hmy (by omega) _ HE.out)))
        go_wp2
        go_ret
        exact ⟨ret_bool rfl, below_drewN hB nq⟩
      · obtain ⟨j, rfl⟩ : ∃ j, m = j + 1 := ⟨m - 1, by omega⟩
        have hz : (0 : Int) < (((j + 1 : Nat) : Int)) := by omega
        have hj1 : ((j + 1 : Nat) : Int) - 1 = (j : Int) := by omega
        obtain ⟨s, hs⟩ : ∃ s, (enA xs j).term = s := ⟨_, rfl⟩
        obtain ⟨t, ht⟩ : ∃ t, (enA ys j).term = t := ⟨_, rfl⟩
        have HS : Hid ((enA xs j).term = s) := hs
        have HT : Hid ((enA ys j).term = t) := ht
        clear hs ht hx hy
        by_cases hst : s = t
        · have hd : (s != t) = false := by simp [hst]
          have HE : Hid (decide (lmTo xs ys (j + 1)) = b) := by show _ = _; rw [← HB.out, HL.out, lmL_t (by omega) (by rw [HS.out, HT.out]; exact hst)]
          clear hst
          go_wp2_with fail
          refine (termAhead_any _ _ xs j s _ hxW (by omega) hl HS.out).mono ?_
          rintro r w1 ⟨rfl, hB1⟩
          go_wp2_with fail
          refine (termAhead_any _ _ ys j t _ (hyW.below hB1) (by omega) hm HT.out).mono ?_
          rintro r w2 ⟨rfl, hB2⟩
          have BB := stRa (stRa hB hB1) hB2
          have hx2 := hxW.below (stRa hB1 hB2)
          have hy2 := hyW.below (stRa hB1 hB2)
          clear hB1 hB2 hB hxW hyW
          have hc0 : (((j + 1 : Nat) : Int)) ≤ (c : Int) := by omega
          have hd0 : (((j + 1 : Nat) : Int)) ≤ (c2 : Int) := by omega
          go_wp2
          go_quiet ((go_at_call 75; exact Calls.quiet_of (equalE_c _ _ (j + 1) _ _ xs ys _ (hx2.below (below_drewN (Below.refl _ _) _)) (hy2.below (below_drewN (Below.refl _ _) _)) hmx hmy (by omega) _ HE.out)))
          go_wp2
          go_ret
          exact ⟨ret_bool rfl, below_drewN BB nq⟩
        · have hd : (s != t) = true := by simp [hst]
          have HE : Hid (lmL xs ys xs.length = lmL xs ys j) := by show _ = _; rw [HL.out, lmL_f (fun g => hst (by rw [← HS.out, ← HT.out]; exact g.2))]
          clear hst
          go_wp2_with fail
          refine (termAhead_any _ _ xs j s _ hxW (by omega) hl HS.out).mono ?_
          rintro r w1 ⟨rfl, hB1⟩
          go_wp2_with fail
          refine (termAhead_any _ _ ys j t _ (hyW.below hB1) (by omega) hm HT.out).mono ?_
          rintro r w2 ⟨rfl, hB2⟩
          have BB := stRa (stRa hB hB1) hB2
          clear hB1 hB2 hB hxW hyW
          go_wp2
          go_roundw
          case rel => exact ⟨j, by go_num, by omega, by omega, HE.out, BB⟩
          case measure => simp [intOf]

set_option maxRecDepth 100000 in
set_option maxHeartbeats 4000000 in
theorem implLogsMatch_any (a a2 : Option Addr) (c c2 : Nat) (xs ys : List En) (w : World) (hx : Ens w a xs) (hy : Ens w a2 ys) (hl : xs.length ≤ maxLen) (hm : ys.length ≤ maxLen) (hc : xs.length ≤ c) (hc2 : ys.length ≤ c2) :
    Calls Try.prog 26 #[.slice a xs.length c, .slice a2 ys.length c2] w fun e w' => e = .returned (.tuple #[.bool (lmA xs ys), .bool (lmB xs ys)]) ∧ Below w.heap.size w w' := by
  cases h1 : logB xs 100 with
  | false =>
    have HE : Hid (lmA xs ys = false ∧ lmB xs ys = false) := by show _ ∧ _; simp [lmA, lmB, h1]
    go_enter Try.func26, Try.ntmps26
    go_wp2_with fail
    refine (goodRaftLog_c _ _ _ _ _ hx hl _ h1).mono ?_
    rintro r w1 ⟨rfl, hB1⟩
    go_wp2
    refine bodyPost_ret (v := .tuple #[.bool false, .bool false]) (by simp [results, Try.results26, go_sem]) rfl ⟨by rw [HE.out.1, HE.out.2], hB1⟩
  | true =>
    cases h2 : logB ys 100 with
    | false =>
      have HE : Hid (lmA xs ys = false ∧ lmB xs ys = false) := by show _ ∧ _; simp [lmA, lmB, h2]
      go_enter Try.func26, Try.ntmps26
      go_wp2_with fail
      refine (goodRaftLog_c _ _ _ _ _ hx hl _ h1).mono ?_
      rintro r w1 ⟨rfl, hB1⟩
      go_wp2_with fail
      refine (goodRaftLog_c _ _ _ _ _ (hy.below hB1) hm _ h2).mono ?_
      rintro r w2 ⟨rfl, hB2⟩
      have BB := stRa hB1 hB2
      clear hB1 hB2
      go_wp2
      refine bodyPost_ret (v := .tuple #[.bool false, .bool false]) (by simp [results, Try.results26, go_sem]) rfl ⟨by rw [HE.out.1, HE.out.2], BB⟩
    | true =>
      have L1 : xs.length ≤ 1000000 := by rw [logB_is] at h1; simp only [Bool.and_eq_true, decide_eq_true_eq] at h1; omega
      have L2 : ys.length ≤ 1000000 := by rw [logB_is] at h2; simp only [Bool.and_eq_true, decide_eq_true_eq] at h2; omega
      obtain ⟨b, hb⟩ : ∃ b, decide (lmTo xs ys (lmL xs ys xs.length)) = b := ⟨_, rfl⟩
      have HE : Hid (lmA xs ys = b ∧ lmB xs ys = true) := by show _ ∧ _; simp only [lmA, lmB, h1, h2, hb]; exact ⟨by simp, rfl⟩
      go_enter Try.func26, Try.ntmps26
      go_wp2_with fail
      refine (goodRaftLog_c _ _ _ _ _ hx hl _ h1).mono ?_
      rintro r w1 ⟨rfl, hB1⟩
      go_wp2_with fail
      refine (goodRaftLog_c _ _ _ _ _ (hy.below hB1) hm _ h2).mono ?_
      rintro r w2 ⟨rfl, hB2⟩
      have BB := stRa hB1 hB2
      clear hB1 hB2 h1 h2
      go_wp2_with fail
      refine (matchUp_any _ _ _ _ xs ys _ (hx.below BB) (hy.below BB) L1 L2 hc hc2 _ hb).mono ?_
      rintro r w3 ⟨rfl, hB3⟩
      clear hb
      go_wp2
      refine bodyPost_ret (v := .tuple #[.bool b, .bool true]) (by simp [results, Try.results26, go_sem]) rfl ⟨by rw [HE.out.1, HE.out.2], stRa BB hB3⟩

end Go.Proofs.Ytglncbhbeikclaa
