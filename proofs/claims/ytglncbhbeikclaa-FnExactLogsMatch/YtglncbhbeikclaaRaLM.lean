/-
  Rafts, the specification's side: LogsMatch. Made by mkra2.py.
-/
import Derived.Test.YtglncbhbeikclaaRaS
import Derived.BigQuiet
namespace Go.Proofs.Ytglncbhbeikclaa
open Go.RowKit

/-- One place behind the last place below k where both have an entry of one term, 0 for none. -/
def lmL (a b : List En) : Nat → Nat
  | 0 => 0
  | k + 1 => if k < b.length ∧ (enA a k).term = (enA b k).term then k + 1 else lmL a b k
theorem lmL_le (a b : List En) : ∀ k, lmL a b k ≤ k ∧ lmL a b k ≤ b.length
  | 0 => ⟨Nat.le_refl _, Nat.zero_le _⟩
  | k + 1 => by
    have := lmL_le a b k
    rw [lmL]
    split <;> omega
theorem lmL_t {a b : List En} {k : Nat} (h : k < b.length) (h2 : (enA a k).term = (enA b k).term) : lmL a b (k + 1) = k + 1 := by rw [lmL, if_pos ⟨h, h2⟩]
theorem lmL_f {a b : List En} {k : Nat} (h : ¬ (k < b.length ∧ (enA a k).term = (enA b k).term)) : lmL a b (k + 1) = lmL a b k := by rw [lmL, if_neg h]
def lmB (a b : List En) : Bool := logB a 100 && logB b 100
def lmTo (a b : List En) (n : Nat) : Prop := ∀ i, i < n → enA a i = enA b i
instance (a b : List En) (n : Nat) : Decidable (lmTo a b n) := by unfold lmTo; infer_instance
def lmA (a b : List En) : Bool := lmB a b && decide (lmTo a b (lmL a b a.length))
theorem lmTo_succ {a b : List En} {n : Nat} (h : lmTo a b n) (h2 : enA a n = enA b n) : lmTo a b (n + 1) := fun i hi => by
  rcases Nat.lt_or_eq_of_le (Nat.le_of_lt_succ hi) with h1 | rfl
  · exact h i h1
  · exact h2

theorem enNe_run (e s e2 s2 : Int) (w : World) : (binOp .neq 56 (.agg #[.int .i64 e, .int .i64 s]) (.agg #[.int .i64 e2, .int .i64 s2])).run Try.prog w = .ok (.bool (!(decide (e = e2) && decide (s = s2)))) w := by
  rw [run_neq_struct, show (10000 : Nat) = 9999 + 1 from rfl, run_equalIn_agg w 9999 56 _ _ (by kernel_rfl) (by kernel_rfl)]
  have u3 := Try.underlying3
  simp only [Program.fieldsOf, Try.underlying56]
  by_cases h1 : e = e2
  · by_cases h2 : s = s2
    · simp [Op.eqFields, part, isAgg, run_underlying u3, run_equalIn_int w _ 3 .i64 .i64 _ _ u3, h1, h2]
    · simp [Op.eqFields, part, isAgg, run_underlying u3, run_equalIn_int w _ 3 .i64 .i64 _ _ u3, h1, h2]
  · simp [Op.eqFields, part, isAgg, run_underlying u3, run_equalIn_int w _ 3 .i64 .i64 _ _ u3, h1]
theorem enGuard : Try.prog.eqGuardType Try.prog.depth 56 = false := by kernel_rfl

set_option maxRecDepth 100000 in
set_option maxHeartbeats 8000000 in
theorem specLogsMatch_any (a a2 : Option Addr) (c c2 : Nat) (xs ys : List En) (w : World) (hx : Ens w a xs) (hy : Ens w a2 ys) (hl : xs.length ≤ maxLen) (hm : ys.length ≤ maxLen) :
    Calls Try.prog 24 #[.slice a xs.length c, .slice a2 ys.length c2] w fun e w' => e = .returned (.tuple #[.bool (lmA xs ys), .bool (lmB xs ys)]) ∧ Below w.heap.size w w' := by
  have hne := enNe_run
  have hgd := enGuard
  have hml := hl
  have hmm := hm
  unfold maxLen at hml hmm
  cases h1 : logB xs 100 with
  | false =>
    have HE : Hid (lmA xs ys = false ∧ lmB xs ys = false) := by show _ ∧ _; simp [lmA, lmB, h1]
    go_enter Try.func24, Try.ntmps24
    go_wp2_with fail
    refine (l10Log_c _ _ _ _ _ _ hx hl h1).mono ?_
    rintro r w1 ⟨rfl, hB1⟩
    go_wp2
    refine bodyPost_ret (v := .tuple #[.bool false, .bool false]) (by simp [results, Try.results24, go_sem]) rfl ⟨by rw [HE.out.1, HE.out.2], hB1⟩
  | true =>
    cases h2 : logB ys 100 with
    | false =>
      have HE : Hid (lmA xs ys = false ∧ lmB xs ys = false) := by show _ ∧ _; simp [lmA, lmB, h2]
      go_enter Try.func24, Try.ntmps24
      go_wp2_with fail
      refine (l10Log_c _ _ _ _ _ _ hx hl h1).mono ?_
      rintro r w1 ⟨rfl, hB1⟩
      go_wp2_with fail
      refine (l10Log_c _ _ _ _ _ _ (hy.below hB1) hm h2).mono ?_
      rintro r w2 ⟨rfl, hB2⟩
      have BB := stRa hB1 hB2
      clear hB1 hB2
      go_wp2
      refine bodyPost_ret (v := .tuple #[.bool false, .bool false]) (by simp [results, Try.results24, go_sem]) rfl ⟨by rw [HE.out.1, HE.out.2], BB⟩
    | true =>
      have HB : Hid (lmB xs ys = true) := by show _ = _; simp [lmB, h1, h2]
      go_enter Try.func24, Try.ntmps24
      go_wp2_with fail
      refine (l10Log_c _ _ _ _ _ _ hx hl h1).mono ?_
      rintro r w1 ⟨rfl, hB1⟩
      go_wp2_with fail
      refine (l10Log_c _ _ _ _ _ _ (hy.below hB1) hm h2).mono ?_
      rintro r w2 ⟨rfl, hB2⟩
      have BB := stRa hB1 hB2
      replace hx := hx.below BB
      replace hy := hy.below BB
      clear hB1 hB2 h1 h2
      go_wp2
      go_loopw [6, 19] (fun z i wr => ∃ k n m : Nat, k ≤ xs.length ∧ i = .int .i64 k ∧ z = .int .i64 n ∧ Hid (lmL xs ys k = n) ∧ wr = w2.drewN m) (fun _ i _ => xs.length - (intOf i).toNat)
      case atStart => exact ⟨0, 0, 0, Nat.zero_le _, rfl, rfl, rfl, rfl⟩
      case round =>
        obtain ⟨k, n, m, hk, rfl, rfl, HN, rfl⟩ := hrel
        have hnl : n ≤ k ∧ n ≤ ys.length := by have := lmL_le xs ys k; rw [HN.out] at this; exact this
        by_cases hlt : k < xs.length
        · obtain ⟨kb, ob, rfl, x0, x1⟩ := hx k _ (enA_get hlt)
          obtain ⟨x, hxe⟩ : ∃ x, enA xs k = x := ⟨_, rfl⟩
          have HX : Hid (enA xs k = x) := hxe
          rw [hxe] at x0 x1
          clear hxe
          have hki : (k : Int) < (xs.length : Int) := by omega
          by_cases hlt2 : k < ys.length
          · obtain ⟨kb2, ob2, rfl, y0, y1⟩ := hy k _ (enA_get hlt2)
            obtain ⟨y, hye⟩ : ∃ y, enA ys k = y := ⟨_, rfl⟩
            have HY : Hid (enA ys k = y) := hye
            rw [hye] at y0 y1
            clear hye
            have hkj : (k : Int) < (ys.length : Int) := by omega
            by_cases hte : x.term = y.term
            · have HK : Hid (lmL xs ys (k + 1) = k + 1) := lmL_t hlt2 (by rw [HX.out, HY.out]; exact hte)
              have hd : (x.term == y.term) = true := by simp [hte]
              clear hx hy x1 y1 hnl HN hte
              go_wp2
              go_quiet (fail)
              go_wp2
              go_roundw
              case rel => exact ⟨k + 1, k + 1, m + nq, by omega, by go_num, by go_num, HK.out, by simp⟩
              case measure => simp [intOf]; omega
            · have HK : Hid (lmL xs ys (k + 1) = n) := (lmL_f (fun h => hte (by have h9 := h.2; rw [HX.out, HY.out] at h9; exact h9))).trans HN.out
              have hd : (x.term == y.term) = false := by simp [hte]
              clear hx hy x1 y1 hnl HN hte
              go_wp2
              go_quiet (fail)
              go_wp2
              go_roundw
              case rel => exact ⟨k + 1, n, m + nq, by omega, by go_num, rfl, HK.out, by simp⟩
              case measure => simp [intOf]; omega
          · have HK : Hid (lmL xs ys (k + 1) = n) := (lmL_f (fun h => hlt2 h.1)).trans HN.out
            have hkj : (ys.length : Int) ≤ (k : Int) := by omega
            clear hx hy x1 hnl HN
            go_wp2
            go_quiet (fail)
            go_wp2
            go_roundw
            case rel => exact ⟨k + 1, n, m + nq, by omega, by go_num, rfl, HK.out, by simp⟩
            case measure => simp [intOf]; omega
        · obtain rfl : k = xs.length := by omega
          go_wp2
          go_loopw [8] (fun i wr => ∃ k m : Nat, k ≤ n ∧ i = .int .i64 k ∧ Hid (lmTo xs ys k) ∧ wr = w2.drewN m) (fun i _ => n - (intOf i).toNat)
          case atStart => exact ⟨0, m, Nat.zero_le _, rfl, (fun i hi => absurd hi (Nat.not_lt_zero _)), rfl⟩
          case round =>
            clear m
            obtain ⟨k, m, hk, rfl, HO, rfl⟩ := hrel
            by_cases hlt : k < n
            · obtain ⟨kb, ob, rfl, x0, x1⟩ := hx k _ (enA_get (by omega))
              obtain ⟨x, hxe⟩ : ∃ x, enA xs k = x := ⟨_, rfl⟩
              have HX : Hid (enA xs k = x) := hxe
              rw [hxe] at x0 x1
              clear hxe
              obtain ⟨kb2, ob2, rfl, y0, y1⟩ := hy k _ (enA_get (by omega))
              obtain ⟨y, hye⟩ : ∃ y, enA ys k = y := ⟨_, rfl⟩
              have HY : Hid (enA ys k = y) := hye
              rw [hye] at y0 y1
              clear hye
              have hki : (k : Int) < (xs.length : Int) := by omega
              have hkj : (k : Int) < (ys.length : Int) := by omega
              have hkn : (k : Int) < (n : Int) := by omega
              by_cases hxy : x = y
              · subst hxy
                have HT : Hid (lmTo xs ys (k + 1)) := lmTo_succ HO.out (by rw [HX.out, HY.out])
                have hb : (!(decide (x.term = x.term) && decide (x.val = x.val))) = false := by simp
                clear hx hy HO hnl HN
                go_wp2
                go_quiet (fail)
                go_wp2
                go_roundw
                case rel => exact ⟨k + 1, m + nq, by omega, by go_num, HT.out, by simp⟩
                case measure => simp [intOf]; omega
              · have HE : Hid (lmA xs ys = false) := by
                  show _ = _
                  have : ¬ lmTo xs ys (lmL xs ys xs.length) := fun h => hxy (by rw [← HX.out, ← HY.out]; exact h k (by rw [HN.out]; exact hlt))
                  simp [lmA, this]
                have hb : (!(decide (x.term = y.term) && decide (x.val = y.val))) = true := by
                  rw [Bool.not_eq_true', Bool.and_eq_false_iff, decide_eq_false_iff_not, decide_eq_false_iff_not]
                  by_cases h : x.term = y.term
                  · exact .inr (fun h2 => hxy (by cases x; cases y; simp_all))
                  · exact .inl h
                clear hx hy HO hnl HN hxy
                have hnx := hne x.term x.val y.term y.val
                rw [hb] at hnx
                clear hb hne
                go_wp2
                go_quiet (fail)
                go_wp2
                refine bodyPost_ret (v := .tuple #[.bool false, .bool true]) (by simp [results, Try.results24, go_sem]) rfl ⟨by rw [HE.out, HB.out], below_drewN (below_drewN BB m) nq⟩
            · obtain rfl : k = n := by omega
              have HE : Hid (lmA xs ys = true) := by
                show _ = _
                have h9 := HO.out
                rw [← HN.out] at h9
                simp [lmA, HB.out, h9]
              clear hx hy HO hnl HN
              go_wp2
              refine bodyPost_ret (v := .tuple #[.bool true, .bool true]) (by simp [results, Try.results24, go_sem]) rfl ⟨by rw [HE.out, HB.out], below_drewN BB m⟩

end Go.Proofs.Ytglncbhbeikclaa
