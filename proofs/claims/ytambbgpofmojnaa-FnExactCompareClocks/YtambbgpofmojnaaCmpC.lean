/-
  Two clocks compared: the contracts of impl.excessOf, impl.CompareClocks, spec.l7Compare, spec.CompareClocks.
-/
import Derived.Test.YtambbgpofmojnaaClk2
import Derived.Test.YtambbgpofmojnaaFlt2
import Derived.BigQuiet
namespace Go.Proofs.Ytambbgpofmojnaa
open Go.RowKit

/-- By how much the first k of one list are greater, together. -/
def exTo (xs ys : List Int) : Nat → Nat
  | 0 => 0
  | k + 1 => exTo xs ys k + ((zA xs k).toNat - (zA ys k).toNat)

theorem exTo_le {xs ys : List Int} {n : Nat} (h : okC xs n) : ∀ k, k ≤ n → exTo xs ys k ≤ 1000 * k
  | 0, _ => by simp [exTo]
  | k + 1, hk => by
    have ih := exTo_le (ys := ys) h k (by omega)
    have := h k (by omega)
    rw [exTo]; omega

theorem exTo_pos {xs ys : List Int} {n : Nat} (hx : okC xs n) (hy : okC ys n) : ∀ k, k ≤ n → (0 < exTo xs ys k ↔ ∃ i, i < k ∧ zA ys i < zA xs i)
  | 0, _ => by simp [exTo]
  | k + 1, hk => by
    have ih := exTo_pos hx hy k (by omega)
    have h1 := hx k (by omega)
    have h2 := hy k (by omega)
    rw [exTo]
    constructor
    · intro h
      by_cases h3 : 0 < exTo xs ys k
      · obtain ⟨i, hi, hlt⟩ := ih.1 h3
        exact ⟨i, by omega, hlt⟩
      · exact ⟨k, by omega, by omega⟩
    · rintro ⟨i, hi, hlt⟩
      by_cases e : i = k
      · subst e; omega
      · have := ih.2 ⟨i, by omega, hlt⟩; omega

theorem excess_any (p q : Nat) (hp : p < 2 ^ 53) (hq : q < 2 ^ 53) (bx by' : Nat) (fx : FNum bx p) (fy : FNum by' q) (w : World) :
    Calls Try.prog 53 #[.complex .f64 bx by'] w fun r w' => r = .returned (.complex .f64 (floatOfInt .f64 ((p - q : Nat) : Int)) (floatOfInt .f64 ((q - p : Nat) : Int))) ∧ w' = w := by
  obtain ⟨r1, h1, m1⟩ := fx.sub fy hp hq
  obtain ⟨r2, h2, m2⟩ := fy.sub fx hq hp
  have s1 := fun w t => run_float_arith (P := Try.prog) w .sub t .f64 bx by' r1 h1
  have s2 := fun w t => run_float_arith (P := Try.prog) w .sub t .f64 by' bx r2 h2
  have n1 := fun ts t w => m1 (P := Try.prog) ts t w
  have n2 := fun ts t w => m2 (P := Try.prog) ts t w
  clear m1 m2 h1 h2 fx fy
  generalize floatOfInt .f64 ((p - q : Nat) : Int) = z1 at *
  generalize floatOfInt .f64 ((q - p : Nat) : Int) = z2 at *
  go_enter Try.func53, Try.ntmps53
  go_wp2
  go_ret
  exact ⟨rfl, rfl⟩

/-- What comparing answers. -/
def cmpV (P Q : Nat) : Int := if P = 0 then (if Q = 0 then 0 else -1) else (if Q = 0 then 1 else 2)
def ccV (xs ys : List Int) : Int := if goodCC xs ys then cmpV (exTo xs ys xs.length) (exTo ys xs xs.length) else 0

theorem goodCC_all {xs ys : List Int} (h : goodCC xs ys = true) : xs.length = ys.length ∧ okC xs xs.length ∧ okC ys xs.length ∧ 1 ≤ xs.length ∧ xs.length ≤ 5 ∧ goodC xs = true ∧ goodC ys = true := by
  unfold goodCC at h
  rw [Bool.and_eq_true, Bool.and_eq_true, decide_eq_true_eq] at h
  obtain ⟨e, g1, g2⟩ := h
  obtain ⟨o1, l1, l2⟩ := goodC_t.1 g1
  exact ⟨e, o1, by rw [e]; exact (goodC_t.1 g2).1, l1, l2, g1, g2⟩

set_option maxRecDepth 100000 in
set_option maxHeartbeats 2000000 in
theorem implCC_any (a a2 : Option Addr) (xs ys : List Int) (w : World) (hx : Ints w a xs) (hy : Ints w a2 ys) (hl : xs.length ≤ maxLen) (hl2 : ys.length ≤ maxLen) :
    Calls Try.prog 29 #[.slice a xs.length xs.length, .slice a2 ys.length ys.length] w fun r w' => r = .returned (.tuple #[.int .i64 (ccV xs ys), .bool (goodCC xs ys)]) ∧ Below w.heap.size w w' := by
  go_enter Try.func29, Try.ntmps29
  go_wp2_with fail
  refine (goodClocks_any a a2 _ _ xs ys _ hx hy hl hl2).mono ?_
  rintro r w1 ⟨hr, hw1⟩
  rw [hw1]
  clear hw1 w1
  generalize hg : goodCC xs ys = g at hr
  have HG : Hid (goodCC xs ys = g) := hg
  have HL : Hid (ccV xs ys = if g then cmpV (exTo xs ys xs.length) (exTo ys xs xs.length) else 0) := by show _ = _; unfold ccV; rw [hg]
  clear hg
  subst hr
  cases g with
  | false =>
    clear hx hy
    go_wp2
    go_ret2
    exact ⟨by rw [HG.out, HL.out]; rfl, Below.refl _ _⟩
  | true =>
    obtain ⟨e1, o1, o2, l1, l2, -, -⟩ := goodCC_all HG.out
    have hpo := pairsOf_any a a2 xs.length ys.length xs.length xs ys w hx hy rfl e1.symm (by omega)
    have HE1 := exTo_le (ys := ys) o1
    have HE2 := exTo_le (ys := xs) o2
    have HL2 : Hid (ccV xs ys = cmpV (exTo xs ys xs.length) (exTo ys xs xs.length)) := HL.out
    rw [← e1]
    rw [← e1] at hpo
    clear hx hy e1 HL hl hl2
    generalize xs.length = n at *
    go_wp2_with fail
    refine hpo.mono ?_
    rintro r w2 ⟨v, rfl, hC⟩
    obtain ⟨av, cv, rfl, -, -⟩ := ownsZ_cap hC.1
    have B2 := hC.2
    have hcc : ∀ i, i < n → ∃ g, av = some ⟨g, 0, none⟩ ∧ w2.cell? ⟨g, i, none⟩ = some (cAt xs ys i) := fun i hin => cans_cell hC hin
    clear hC hpo
    go_wp2
    have z0 : floatOfInt .f64 ((0 : Nat) : Int) = 0 := by decide +kernel
    go_loop [6, 17] (fun v i => ∃ k : Nat, k ≤ n ∧ i = .int .i64 k ∧ v = .complex .f64 (floatOfInt .f64 ((exTo xs ys k : Nat) : Int)) (floatOfInt .f64 ((exTo ys xs k : Nat) : Int))) (fun _ i => n - (intOf i).toNat)
    case atStart => exact ⟨0, Nat.zero_le _, rfl, by simp only [exTo, z0]⟩
    case round =>
      clear z0
      obtain ⟨k, hk, rfl, rfl⟩ := hrel
      have b1 := HE1 k hk
      have b2 := HE2 k hk
      by_cases hlt : k < n
      · obtain ⟨g, rfl, hc0⟩ := hcc k hlt
        obtain ⟨p, hp⟩ := Int.eq_ofNat_of_zero_le (o1 k hlt).1
        obtain ⟨q, hq⟩ := Int.eq_ofNat_of_zero_le (o2 k hlt).1
        have hp1 : p < 2 ^ 53 := by have := (o1 k hlt).2; omega
        have hq1 : q < 2 ^ 53 := by have := (o2 k hlt).2; omega
        have N1 : Hid (exTo xs ys (k + 1) = exTo xs ys k + (p - q)) := by show _ = _; rw [exTo, hp, hq]; rfl
        have N2 : Hid (exTo ys xs (k + 1) = exTo ys xs k + (q - p)) := by show _ = _; rw [exTo, hp, hq]; rfl
        have f1 := fnum_of hp1
        have f2 := fnum_of hq1
        rw [← hp] at f1
        rw [← hq] at f2
        have hp2 := (o1 k hlt).2
        have hq2 := (o2 k hlt).2
        have hex := excess_any p q hp1 hq1 _ _ f1 f2
        have a1 := (fnum_of (n := exTo xs ys k) (by omega)).add (fnum_of (n := p - q) (by omega)) (by omega)
        have a2' := (fnum_of (n := exTo ys xs k) (by omega)).add (fnum_of (n := q - p) (by omega)) (by omega)
        have hsum := fun w t => run_complex_sum (P := Try.prog) w .add (.inl rfl) t .f64 (floatOfInt .f64 ((exTo xs ys k : Nat) : Int)) (floatOfInt .f64 ((exTo ys xs k : Nat) : Int)) (floatOfInt .f64 ((p - q : Nat) : Int)) (floatOfInt .f64 ((q - p : Nat) : Int)) (floatOfInt .f64 ((exTo xs ys k + (p - q) : Nat) : Int)) (floatOfInt .f64 ((exTo ys xs k + (q - p) : Nat) : Int)) (by unfold cSumBits; rw [a1, a2']; rfl)
        have hc1 : w2.cell? ⟨g, k, none⟩ = some (.complex .f64 (floatOfInt .f64 (zA xs k)) (floatOfInt .f64 (zA ys k))) := hc0
        have hk1 : (k : Int) < (n : Int) := by omega
        clear f1 f2 a1 a2' hc0 hp hq hp1 hq1 hp2 hq2 hcc b1 b2
        generalize floatOfInt .f64 (zA xs k) = bx at *
        generalize floatOfInt .f64 (zA ys k) = by' at *
        have R1 : Hid (floatOfInt .f64 ((exTo xs ys (k + 1) : Nat) : Int) = floatOfInt .f64 ((exTo xs ys k + (p - q) : Nat) : Int)) := by show _ = _; rw [N1.out]
        have R2 : Hid (floatOfInt .f64 ((exTo ys xs (k + 1) : Nat) : Int) = floatOfInt .f64 ((exTo ys xs k + (q - p) : Nat) : Int)) := by show _ = _; rw [N2.out]
        clear N1 N2
        generalize floatOfInt .f64 ((exTo xs ys k + (p - q) : Nat) : Int) = s1 at *
        generalize floatOfInt .f64 ((exTo ys xs k + (q - p) : Nat) : Int) = s2 at *
        generalize floatOfInt .f64 ((exTo xs ys k : Nat) : Int) = t1 at *
        generalize floatOfInt .f64 ((exTo ys xs k : Nat) : Int) = t2 at *
        generalize floatOfInt .f64 ((p - q : Nat) : Int) = d1 at *
        generalize floatOfInt .f64 ((q - p : Nat) : Int) = d2 at *
        go_wp2_with (go_at_call 53; refine (hex _).mono ?_; rintro r w3 ⟨rfl, hw3⟩; rw [hw3]; clear hw3 w3)
        go_round
        case rel => exact ⟨k + 1, by omega, by go_num, by rw [R1.out, R2.out]⟩
        case measure => simp [intOf]; omega
      · obtain rfl : k = n := by omega
        have q1 := FNum.zero (n := exTo xs ys k) (by omega)
        have q2 := FNum.zero (n := exTo ys xs k) (by omega)
        clear hcc HE1 HE2 b1 b2 o1 o2
        generalize floatOfInt .f64 ((exTo xs ys k : Nat) : Int) = t1 at *
        generalize floatOfInt .f64 ((exTo ys xs k : Nat) : Int) = t2 at *
        generalize exTo xs ys k = P at *
        generalize exTo ys xs k = Q at *
        by_cases hP : P = 0
        · rw [decide_eq_true hP] at q1
          by_cases hQ : Q = 0
          · have HV : Hid (ccV xs ys = 0) := by show _ = _; rw [HL2.out]; unfold cmpV; rw [if_pos hP, if_pos hQ]
            rw [decide_eq_true hQ] at q2
            clear hP hQ HL2
            go_wp2
            go_ret2
            exact ⟨by rw [HV.out, HG.out]; rfl, B2⟩
          · have HV : Hid (ccV xs ys = -1) := by show _ = _; rw [HL2.out]; unfold cmpV; rw [if_pos hP, if_neg hQ]
            rw [decide_eq_false hQ] at q2
            clear hP hQ HL2
            go_wp2
            go_ret2
            exact ⟨by rw [HV.out, HG.out]; rfl, B2⟩
        · rw [decide_eq_false hP] at q1
          by_cases hQ : Q = 0
          · have HV : Hid (ccV xs ys = 1) := by show _ = _; rw [HL2.out]; unfold cmpV; rw [if_neg hP, if_pos hQ]
            rw [decide_eq_true hQ] at q2
            clear hP hQ HL2
            go_wp2
            go_ret2
            exact ⟨by rw [HV.out, HG.out]; rfl, B2⟩
          · have HV : Hid (ccV xs ys = 2) := by show _ = _; rw [HL2.out]; unfold cmpV; rw [if_neg hP, if_neg hQ]
            rw [decide_eq_false hQ] at q2
            clear hP hQ HL2
            go_wp2
            go_ret2
            exact ⟨by rw [HV.out, HG.out]; rfl, B2⟩

set_option maxRecDepth 100000 in
set_option maxHeartbeats 2000000 in
theorem l7Compare_any (a a2 : Option Addr) (c c2 n : Nat) (xs ys : List Int) (w : World) (hx : Ints w a xs) (hy : Ints w a2 ys) (h1 : xs.length = n) (h2 : ys.length = n) (hn : n ≤ 100) (o1 : okC xs n) (o2 : okC ys n) :
    Calls Try.prog 50 #[.slice a n c, .slice a2 n c2] w fun r w' => r = .returned (.int .i64 (cmpV (exTo xs ys n) (exTo ys xs n))) ∧ Below w.heap.size w w' := by
  have HX : Hid (xs.length = n) := h1
  have HY : Hid (ys.length = n) := h2
  have HE1 := exTo_pos o1 o2
  have HE2 := exTo_pos o2 o1
  clear h1 h2 o1 o2
  go_enter Try.func50, Try.ntmps50
  go_wp2
  go_loopw [5, 6, 10] (fun l m i wr => ∃ k : Nat, k ≤ n ∧ i = .int .i64 k ∧ l = .bool (decide (0 < exTo ys xs k)) ∧ m = .bool (decide (0 < exTo xs ys k)) ∧ ∃ d, wr = w.drewN d) (fun _ _ i _ => n - (intOf i).toNat)
  case atStart => exact ⟨0, Nat.zero_le _, rfl, rfl, rfl, 0, rfl⟩
  case round =>
    obtain ⟨k, hk, rfl, rfl, rfl, d, rfl⟩ := hrel
    by_cases hlt : k < n
    · obtain ⟨b, off, rfl, d0⟩ := hx k _ (zA_get (by have := HX.out; omega))
      obtain ⟨b2, off2, rfl, d1⟩ := hy k _ (zA_get (by have := HY.out; omega))
      have hk1 : (k : Int) < (n : Int) := by omega
      have hk0 : (0 : Int) ≤ (k : Int) := by omega
      have L1 : decide (0 < exTo ys xs (k + 1)) = (decide (0 < exTo ys xs k) || decide (zA xs k < zA ys k)) := by
        rw [Bool.eq_iff_iff, Bool.or_eq_true, decide_eq_true_eq, decide_eq_true_eq, decide_eq_true_eq, HE2 (k + 1) (by omega), HE2 k hk]
        constructor
        · rintro ⟨i, hi, hl⟩
          by_cases e : i = k
          · subst e; exact .inr hl
          · exact .inl ⟨i, by omega, hl⟩
        · rintro (⟨i, hi, hl⟩ | h)
          · exact ⟨i, by omega, hl⟩
          · exact ⟨k, by omega, h⟩
      have L2 : decide (0 < exTo xs ys (k + 1)) = (decide (0 < exTo xs ys k) || decide (zA ys k < zA xs k)) := by
        rw [Bool.eq_iff_iff, Bool.or_eq_true, decide_eq_true_eq, decide_eq_true_eq, decide_eq_true_eq, HE1 (k + 1) (by omega), HE1 k hk]
        constructor
        · rintro ⟨i, hi, hl⟩
          by_cases e : i = k
          · subst e; exact .inr hl
          · exact .inl ⟨i, by omega, hl⟩
        · rintro (⟨i, hi, hl⟩ | h)
          · exact ⟨i, by omega, hl⟩
          · exact ⟨k, by omega, h⟩
      have HL1 : Hid (decide (0 < exTo ys xs (k + 1)) = (decide (0 < exTo ys xs k) || decide (zA xs k < zA ys k))) := L1
      have HL2 : Hid (decide (0 < exTo xs ys (k + 1)) = (decide (0 < exTo xs ys k) || decide (zA ys k < zA xs k))) := L2
      clear L1 L2 HE1 HE2 hx hy
      generalize decide (0 < exTo ys xs k) = p at *
      generalize decide (0 < exTo xs ys k) = q at *
      cases p
      all_goals
        cases q
        all_goals
          go_wp2
          go_quiet (fail)
          go_wp2
          go_quiet (fail)
          go_wp2
          go_roundw
          case rel => exact ⟨k + 1, by omega, by go_num, by rw [HL1.out]; simp, by rw [HL2.out]; simp, _, by first | rfl | simp [World.drewN_add]⟩
          case measure => simp [intOf]; omega
    · obtain rfl : k = n := by omega
      clear hx hy HE1 HE2
      obtain ⟨P, hP0⟩ : ∃ P, exTo xs ys k = P := ⟨_, rfl⟩
      obtain ⟨Q, hQ0⟩ : ∃ Q, exTo ys xs k = Q := ⟨_, rfl⟩
      have HPQ : Hid (cmpV (exTo xs ys k) (exTo ys xs k) = cmpV P Q) := by show _ = _; rw [hP0, hQ0]
      rw [hP0, hQ0]
      clear hP0 hQ0
      by_cases hP : P = 0
      · have p1 : decide (0 < P) = false := decide_eq_false (by omega)
        by_cases hQ : Q = 0
        · have p2 : decide (0 < Q) = false := decide_eq_false (by omega)
          have HV : Hid (cmpV P Q = 0) := by show _ = _; unfold cmpV; rw [if_pos hP, if_pos hQ]
          rw [p1, p2]
          clear hP hQ p1 p2
          go_wp2
          go_ret
          exact ⟨ret_int (HPQ.out.trans HV.out).symm, below_drewN (Below.refl _ _) d⟩
        · have p2 : decide (0 < Q) = true := decide_eq_true (by omega)
          have HV : Hid (cmpV P Q = -1) := by show _ = _; unfold cmpV; rw [if_pos hP, if_neg hQ]
          rw [p1, p2]
          clear hP hQ p1 p2
          go_wp2
          go_ret
          exact ⟨ret_int (HPQ.out.trans HV.out).symm, below_drewN (Below.refl _ _) d⟩
      · have p1 : decide (0 < P) = true := decide_eq_true (by omega)
        by_cases hQ : Q = 0
        · have p2 : decide (0 < Q) = false := decide_eq_false (by omega)
          have HV : Hid (cmpV P Q = 1) := by show _ = _; unfold cmpV; rw [if_neg hP, if_pos hQ]
          rw [p1, p2]
          clear hP hQ p1 p2
          go_wp2
          go_ret
          exact ⟨ret_int (HPQ.out.trans HV.out).symm, below_drewN (Below.refl _ _) d⟩
        · have p2 : decide (0 < Q) = true := decide_eq_true (by omega)
          have HV : Hid (cmpV P Q = 2) := by show _ = _; unfold cmpV; rw [if_neg hP, if_neg hQ]
          rw [p1, p2]
          clear hP hQ p1 p2
          go_wp2
          go_ret
          exact ⟨ret_int (HPQ.out.trans HV.out).symm, below_drewN (Below.refl _ _) d⟩

set_option maxRecDepth 100000 in
set_option maxHeartbeats 2000000 in
theorem specCC_any (a a2 : Option Addr) (xs ys : List Int) (w : World) (hx : Ints w a xs) (hy : Ints w a2 ys) (hl : xs.length ≤ maxLen) (hl2 : ys.length ≤ maxLen) :
    Calls Try.prog 27 #[.slice a xs.length xs.length, .slice a2 ys.length ys.length] w fun r w' => r = .returned (.tuple #[.int .i64 (ccV xs ys), .bool (goodCC xs ys)]) ∧ Below w.heap.size w w' := by
  generalize hg1 : goodC xs = g1
  generalize hg2 : goodC ys = g2
  have HG1 : Hid (goodC xs = g1) := hg1
  have HG2 : Hid (goodC ys = g2) := hg2
  have HCC : Hid (goodCC xs ys = (decide (xs.length = ys.length) && (g1 && g2))) := by show _ = _; unfold goodCC; rw [hg1, hg2]
  clear hg1 hg2
  have HV0 : Hid (goodCC xs ys = false → ccV xs ys = 0) := fun h => by unfold ccV; rw [h]; rfl
  cases g1 with
  | false =>
    have HF : Hid (goodCC xs ys = false) := by show _ = _; rw [HCC.out]; simp
    have HV := HV0.out HF.out
    have HV : Hid (ccV xs ys = 0) := HV
    go_enter Try.func27, Try.ntmps27
    go_wp2_with (go_at_call 49; refine (l7Clock_any a _ xs _ hx hl).mono ?_; rintro r w1 ⟨hr, hw1⟩; rw [HG1.out] at hr; subst hr; rw [hw1]; clear hw1 w1)
    go_ret2
    exact ⟨by rw [HF.out, HV.out]; rfl, Below.refl _ _⟩
  | true =>
  cases g2 with
  | false =>
    have HF : Hid (goodCC xs ys = false) := by show _ = _; rw [HCC.out]; simp
    have HV : Hid (ccV xs ys = 0) := HV0.out HF.out
    go_enter Try.func27, Try.ntmps27
    go_wp2_with (first | (go_at_call_of 49 (Value.slice a xs.length xs.length); refine (l7Clock_any a _ xs _ hx hl).mono ?_; rintro r w1 ⟨hr, hw1⟩; rw [HG1.out] at hr; subst hr; rw [hw1]; clear hw1 w1) | (go_at_call 49; refine (l7Clock_any a2 _ ys _ hy hl2).mono ?_; rintro r w1 ⟨hr, hw1⟩; rw [HG2.out] at hr; subst hr; rw [hw1]; clear hw1 w1))
    go_ret2
    exact ⟨by rw [HF.out, HV.out]; rfl, Below.refl _ _⟩
  | true =>
  by_cases hn : xs.length = ys.length
  · have HT : Hid (goodCC xs ys = true) := by show _ = _; rw [HCC.out, decide_eq_true hn]; rfl
    have hd : ((xs.length : Int) != (ys.length : Int)) = false := by simp [hn]
    obtain ⟨-, o1, o2, l1, l2, -, -⟩ := goodCC_all HT.out
    have hj := l7Compare_any a a2 xs.length ys.length xs.length xs ys w hx hy rfl hn.symm (by omega) o1 o2
    have HL : Hid (ccV xs ys = cmpV (exTo xs ys xs.length) (exTo ys xs xs.length)) := by show _ = _; unfold ccV; rw [HT.out]; rfl
    have h1 := fun u => l7Clock_any a xs.length xs u
    have h2 := fun u => l7Clock_any a2 ys.length ys u
    rw [← hn] at hj h2 hd ⊢
    clear hn o1 o2
    generalize cmpV (exTo xs ys xs.length) (exTo ys xs xs.length) = z at *
    go_enter Try.func27, Try.ntmps27
    go_wp2_with (first | (go_at_call_of 49 (Value.slice a xs.length xs.length); first | (refine (h1 _ hx hl).mono ?_; rintro r w1 ⟨hr, hw1⟩; rw [HG1.out] at hr; subst hr; rw [hw1]; clear hw1 w1)) | (go_at_call 49; refine (h2 _ hy hl).mono ?_; rintro r w1 ⟨hr, hw1⟩; rw [HG2.out] at hr; subst hr; rw [hw1]; clear hw1 w1) | (go_at_call 50; refine hj.mono ?_; rintro r w2 ⟨rfl, hB⟩))
    go_ret2
    exact ⟨by rw [HT.out, HL.out]; rfl, hB⟩
  · have HF : Hid (goodCC xs ys = false) := by show _ = _; rw [HCC.out, decide_eq_false hn]; rfl
    have HV : Hid (ccV xs ys = 0) := HV0.out HF.out
    have hd : ((xs.length : Int) != (ys.length : Int)) = true := by simp; omega
    clear hn
    go_enter Try.func27, Try.ntmps27
    go_wp2_with (first | (go_at_call_of 49 (Value.slice a xs.length xs.length); refine (l7Clock_any a _ xs _ hx hl).mono ?_; rintro r w1 ⟨hr, hw1⟩; rw [HG1.out] at hr; subst hr; rw [hw1]; clear hw1 w1) | (go_at_call 49; refine (l7Clock_any a2 _ ys _ hy hl2).mono ?_; rintro r w1 ⟨hr, hw1⟩; rw [HG2.out] at hr; subst hr; rw [hw1]; clear hw1 w1))
    go_ret2
    exact ⟨by rw [HF.out, HV.out]; rfl, Below.refl _ _⟩

end Go.Proofs.Ytambbgpofmojnaa
