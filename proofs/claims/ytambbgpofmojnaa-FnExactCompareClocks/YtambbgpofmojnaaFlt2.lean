/-
  Small whole numbers as floats: sums and differences are exact; a difference below 0 is less than 0.
-/
import Derived.Test.YtambbgpofmojnaaFlt
import Derived.Laws.ComplexArith
namespace Go.Proofs.Ytambbgpofmojnaa
open Go.RowKit

theorem cut_even (neg : Bool) {m d : Nat} (hm : 0 < m) : Ieee.Toward.even.cut neg (m * 2 ^ d) d = m := by
  have hp := Nat.two_pow_pos d
  have hk : d ≤ (m * 2 ^ d).log2 + 2 := by
    have h1 : 2 ^ d ≤ m * 2 ^ d := Nat.le_mul_of_pos_left _ hm
    have h2 : m * 2 ^ d ≠ 0 := Nat.mul_ne_zero (by omega) (by omega)
    have := (Nat.le_log2 (n := m * 2 ^ d) (k := d) h2).2 h1
    omega
  unfold Ieee.Toward.cut
  simp only [Nat.min_eq_left hk, Nat.shiftLeft_eq, Nat.one_mul, Nat.mul_div_cancel _ hp, Nat.mul_mod_left]
  have e1 : decide (2 ^ d < 2 * 0) = false := decide_eq_false (by omega)
  have e2 : (2 ^ d == 2 * 0) = false := by simp
  rw [e1, e2]; simp

theorem log_mul {n k : Nat} (h : 0 < n) : (n * 2 ^ k).log2 = n.log2 + k := by
  have hp := Nat.two_pow_pos k
  rw [Nat.log2_eq_iff (Nat.mul_ne_zero (by omega) (by omega))]
  have h1 := Nat.log2_self_le (n := n) (by omega)
  have h2 := Nat.lt_log2_self (n := n)
  constructor
  · rw [Nat.pow_add]; exact Nat.mul_le_mul_right _ h1
  · rw [show n.log2 + k + 1 = (n.log2 + 1) + k by omega, Nat.pow_add]; exact (Nat.mul_lt_mul_right hp).2 h2

set_option maxRecDepth 10000 in
/-- The word of a small whole number that is written with places below the point. -/
theorem nearest_any (neg : Bool) {n k : Nat} (h0 : 0 < n) (h : n < 2 ^ 53) : Ieee.double.nearest neg (n * 2 ^ k) (-(k : Int)) = Ieee.double.word neg ((n.log2 + 1022) * 2 ^ 52 + n * 2 ^ (52 - n.log2)) := by
  obtain ⟨h1, h2, h3⟩ := log_rg h0 h
  have hp := Nat.two_pow_pos k
  unfold Ieee.Format.nearest
  rw [if_neg (Nat.mul_ne_zero (by omega) (by omega)), log_mul h0]
  have e1 : max (-(k : Int) + ((n.log2 + k : Nat) : Int) - ((Ieee.double.fractionBits : Nat) : Int)) Ieee.double.leastPlace = (n.log2 : Int) - 52 := by
    show max (-(k : Int) + ((n.log2 + k : Nat) : Int) - 52) (-1074) = _
    omega
  simp only [e1]
  have e4 : ((n.log2 : Int) - 52 - Ieee.double.leastPlace).toNat = n.log2 + 1022 := by
    show ((n.log2 : Int) - 52 - (-1074)).toNat = _
    omega
  have ec : Ieee.Toward.even.cut neg ((n * 2 ^ k) <<< (-(k : Int) - ((n.log2 : Int) - 52)).toNat) ((n.log2 : Int) - 52 - -(k : Int)).toNat = n * 2 ^ (52 - n.log2) := by
    by_cases hk : k ≤ 52 - n.log2
    · have e2 : (-(k : Int) - ((n.log2 : Int) - 52)).toNat = 52 - n.log2 - k := by omega
      have e3 : ((n.log2 : Int) - 52 - -(k : Int)).toNat = 0 := by omega
      rw [e2, e3, Nat.shiftLeft_eq, Nat.mul_assoc, ← Nat.pow_add, show k + (52 - n.log2 - k) = 52 - n.log2 by omega]
      have := cut_even neg (m := n * 2 ^ (52 - n.log2)) (d := 0) (by omega)
      simpa using this
    · have e2 : (-(k : Int) - ((n.log2 : Int) - 52)).toNat = 0 := by omega
      have e3 : ((n.log2 : Int) - 52 - -(k : Int)).toNat = k - (52 - n.log2) := by omega
      rw [e2, e3, Nat.shiftLeft_zero]
      have e5 : n * 2 ^ k = (n * 2 ^ (52 - n.log2)) * 2 ^ (k - (52 - n.log2)) := by
        rw [Nat.mul_assoc, ← Nat.pow_add, show 52 - n.log2 + (k - (52 - n.log2)) = k by omega]
      rw [e5]
      exact cut_even neg (by omega)
  rw [ec, e4]
  have w2 : Ieee.double.binade = 2 ^ 52 := rfl
  have w3 : Ieee.double.infRung = 2047 * 2 ^ 52 := rfl
  rw [w2, w3, Nat.min_eq_left]
  have h4 : (n.log2 + 1022) * 2 ^ 52 ≤ 1074 * 2 ^ 52 := Nat.mul_le_mul_right _ (by omega)
  have h5 : (2 : Nat) ^ 53 = 2 * 2 ^ 52 := rfl
  rw [h5] at h3
  generalize (2 : Nat) ^ 52 = B at *
  omega

theorem foi {n : Nat} : floatOfInt .f64 (n : Int) = Ieee.double.nearest false n 0 := by
  show Ieee.double.nearest (decide ((n : Int) < 0)) (n : Int).natAbs 0 = _
  have : decide ((n : Int) < 0) = false := decide_eq_false (by omega)
  rw [this, Int.natAbs_natCast]

theorem nearest_pos {n k : Nat} (h : n < 2 ^ 53) : Ieee.double.nearest false (n * 2 ^ k) (-(k : Int)) = floatOfInt .f64 (n : Int) := by
  rw [foi]
  by_cases h0 : n = 0
  · subst h0
    unfold Ieee.Format.nearest
    rw [if_pos (Nat.zero_mul _), if_pos rfl]
  · rw [nearest_any false (by omega) h, nearest_nat (by omega) h]
    unfold Ieee.Format.word
    simp

/-- A number below 0 is less than 0. -/
theorem nearest_neg {n k : Nat} (h0 : 0 < n) (h : n < 2 ^ 53) : FloatKind.f64.format.order (Ieee.double.nearest true (n * 2 ^ k) (-(k : Int))) 0 = some .lt := by
  obtain ⟨h1, h2, h3⟩ := log_rg h0 h
  have hr := read_nat h0 h
  rw [nearest_nat h0 h] at hr
  rw [nearest_any true h0 h]
  have hsm : (n.log2 + 1022) * 2 ^ 52 + n * 2 ^ (52 - n.log2) < 2 ^ 63 := by
    have h4 : (n.log2 + 1022) * 2 ^ 52 ≤ 1074 * 2 ^ 52 := Nat.mul_le_mul_right _ (by omega)
    have h5 : (2 : Nat) ^ 53 = 2 * 2 ^ 52 := rfl
    have h6 : (2 : Nat) ^ 63 = 2048 * 2 ^ 52 := rfl
    rw [h5] at h3
    rw [h6]
    generalize (2 : Nat) ^ 52 = B at *
    omega
  generalize (n.log2 + 1022) * 2 ^ 52 + n * 2 ^ (52 - n.log2) = r at *
  have w1 : Ieee.double.signWeight = 2 ^ 63 := rfl
  have hw : Ieee.double.word true r = 2 ^ 63 + r := by unfold Ieee.Format.word; rw [if_pos rfl, w1]
  rw [hw]
  have hread : Ieee.double.read (2 ^ 63 + r) = .number true (n * 2 ^ (52 - n.log2)) ((n.log2 : Int) - 52) := by
    unfold Ieee.Format.read at hr ⊢
    have d1 : r / 2 ^ 63 = 0 := Nat.div_eq_of_lt hsm
    have d2 : (2 ^ 63 + r) / 2 ^ 63 = 1 := by rw [Nat.add_div_left _ (Nat.two_pow_pos 63), d1]
    have m1 : r % 2 ^ 63 = r := Nat.mod_eq_of_lt hsm
    have m2 : (2 ^ 63 + r) % 2 ^ 63 = r := by rw [Nat.add_mod_left, m1]
    simp only [w1, d1, m1] at hr
    simp only [w1, d2, m2]
    by_cases c1 : r < Ieee.double.binade
    · rw [if_pos c1] at hr ⊢
      simp only [Ieee.Datum.number.injEq] at hr ⊢
      exact ⟨by decide, hr.2⟩
    · rw [if_neg c1] at hr ⊢
      by_cases c2 : r < Ieee.double.infRung
      · rw [if_pos c2] at hr ⊢
        simp only [Ieee.Datum.number.injEq] at hr ⊢
        exact ⟨by decide, hr.2⟩
      · rw [if_neg c2] at hr
        split at hr <;> cases hr
  show (Ieee.double.read (2 ^ 63 + r)).order (Ieee.double.read 0) = _
  rw [hread, read_zero]
  show some (compare (Ieee.signed true (n * 2 ^ (52 - n.log2)) _) (Ieee.signed false 0 _)) = _
  congr 1
  have e1 : ∀ u, Ieee.signed true (n * 2 ^ (52 - n.log2)) u < 0 := fun u => by
    show -(((n * 2 ^ (52 - n.log2)) <<< u : Nat) : Int) < 0
    rw [Nat.shiftLeft_eq]
    have : 0 < n * 2 ^ (52 - n.log2) * 2 ^ u := Nat.mul_pos (by omega) (Nat.two_pow_pos u)
    omega
  have e2 : ∀ u, Ieee.signed false 0 u = 0 := fun u => by
    show ((0 <<< u : Nat) : Int) = 0
    simp
  rw [e2]
  show compareOfLessAndEq _ _ = _
  unfold compareOfLessAndEq
  rw [if_pos (e1 _)]

theorem sum_reads {b b' n n' : Nat} (s : Bool) (h : FNum b n) (h' : FNum b' n') : ∃ K : Nat, Ieee.Datum.sum (Ieee.double.read b) (if s then (Ieee.double.read b').opposite else Ieee.double.read b') =
    some (.number (if ((n : Int) + (if s then -(n' : Int) else n')) * 2 ^ K = 0 then false else decide (((n : Int) + (if s then -(n' : Int) else n')) * 2 ^ K < 0)) (((n : Int) + (if s then -(n' : Int) else n')) * 2 ^ K).natAbs (-(K : Int))) := by
  obtain ⟨m, k, e, -, hm⟩ := h
  obtain ⟨m', k', e', -, hm'⟩ := h'
  refine ⟨max k k', ?_⟩
  rw [e, e']
  have e1 : k + (-(k : Int) - min (-(k : Int)) (-(k' : Int))).toNat = max k k' := by omega
  have e2 : k' + (-(k' : Int) - min (-(k : Int)) (-(k' : Int))).toNat = max k k' := by omega
  have e3 : min (-(k : Int)) (-(k' : Int)) = -((max k k' : Nat) : Int) := by omega
  have s1 : ((m <<< (-(k : Int) - min (-(k : Int)) (-(k' : Int))).toNat : Nat) : Int) = (n : Int) * 2 ^ (max k k') := by
    rw [Nat.shiftLeft_eq, hm, Nat.mul_assoc, ← Nat.pow_add, e1]; simp
  have s2 : ((m' <<< (-(k' : Int) - min (-(k : Int)) (-(k' : Int))).toNat : Nat) : Int) = (n' : Int) * 2 ^ (max k k') := by
    rw [Nat.shiftLeft_eq, hm', Nat.mul_assoc, ← Nat.pow_add, e2]; simp
  cases s
  · show some (Ieee.Datum.number (if ((m <<< (-(k : Int) - min (-(k : Int)) (-(k' : Int))).toNat : Nat) : Int) + ((m' <<< (-(k' : Int) - min (-(k : Int)) (-(k' : Int))).toNat : Nat) : Int) = 0 then (false && false) else decide (((m <<< (-(k : Int) - min (-(k : Int)) (-(k' : Int))).toNat : Nat) : Int) + ((m' <<< (-(k' : Int) - min (-(k : Int)) (-(k' : Int))).toNat : Nat) : Int) < 0)) (((m <<< (-(k : Int) - min (-(k : Int)) (-(k' : Int))).toNat : Nat) : Int) + ((m' <<< (-(k' : Int) - min (-(k : Int)) (-(k' : Int))).toNat : Nat) : Int)).natAbs (min (-(k : Int)) (-(k' : Int)))) = _
    rw [s1, s2, e3, ← Int.add_mul]
    rfl
  · show some (Ieee.Datum.number (if ((m <<< (-(k : Int) - min (-(k : Int)) (-(k' : Int))).toNat : Nat) : Int) + -((m' <<< (-(k' : Int) - min (-(k : Int)) (-(k' : Int))).toNat : Nat) : Int) = 0 then (false && true) else decide (((m <<< (-(k : Int) - min (-(k : Int)) (-(k' : Int))).toNat : Nat) : Int) + -((m' <<< (-(k' : Int) - min (-(k : Int)) (-(k' : Int))).toNat : Nat) : Int) < 0)) (((m <<< (-(k : Int) - min (-(k : Int)) (-(k' : Int))).toNat : Nat) : Int) + -((m' <<< (-(k' : Int) - min (-(k : Int)) (-(k' : Int))).toNat : Nat) : Int)).natAbs (min (-(k : Int)) (-(k' : Int)))) = _
    rw [s1, s2, e3, ← Int.neg_mul, ← Int.add_mul]
    rfl

theorem FNum.add {b b' n n' : Nat} (h : FNum b n) (h' : FNum b' n') (hn : n + n' < 2 ^ 53) : floatBits .add .f64 b b' = some (floatOfInt .f64 ((n + n' : Nat) : Int)) := by
  obtain ⟨K, e⟩ := sum_reads false h h'
  simp only [Bool.false_eq_true, if_false] at e
  show ((Ieee.double.read b).sum (Ieee.double.read b')).map Ieee.double.write = _
  rw [e]
  have hp : (0 : Int) < 2 ^ K := Int.pow_pos (by omega)
  have e1 : ((n : Int) + (n' : Int)) * 2 ^ K = (((n + n') * 2 ^ K : Nat) : Int) := by simp
  rw [e1]
  have e2 : (if ((((n + n') * 2 ^ K : Nat)) : Int) = 0 then false else decide (((((n + n') * 2 ^ K : Nat)) : Int) < 0)) = false := by
    split
    · rfl
    · exact decide_eq_false (by omega)
  rw [e2, Int.natAbs_natCast]
  show some (Ieee.double.nearest false ((n + n') * 2 ^ K) (-(K : Int))) = _
  rw [nearest_pos hn]

/-- A difference, and what max makes of it and 0. -/
theorem FNum.sub {b b' n n' : Nat} (h : FNum b n) (h' : FNum b' n') (hn : n < 2 ^ 53) (hn' : n' < 2 ^ 53) : ∃ r, floatBits .sub .f64 b b' = some r ∧ ∀ {P : Program} (ts : Array TypeId) (t : TypeId) (w : World), (Builtin.max_ ts t #[.float .f64 r, .float .f64 0]).run P w = .ok (.float .f64 (floatOfInt .f64 ((n - n' : Nat) : Int))) w := by
  obtain ⟨K, e⟩ := sum_reads true h h'
  simp only [if_true] at e
  have hs : floatBits .sub .f64 b b' = ((Ieee.double.read b).sum (Ieee.double.read b').opposite).map Ieee.double.write := rfl
  rw [e] at hs
  have hp : 0 < 2 ^ K := Nat.two_pow_pos K
  by_cases hle : n' ≤ n
  · have e1 : ((n : Int) + -(n' : Int)) * 2 ^ K = (((n - n') * 2 ^ K : Nat) : Int) := by
      rw [Int.natCast_mul, Int.natCast_sub hle, Int.natCast_pow]; rfl
    rw [e1] at hs
    have e2 : (if ((((n - n') * 2 ^ K : Nat)) : Int) = 0 then false else decide (((((n - n') * 2 ^ K : Nat)) : Int) < 0)) = false := by
      split
      · rfl
      · exact decide_eq_false (by omega)
    rw [e2, Int.natAbs_natCast] at hs
    have e3 : floatBits .sub .f64 b b' = some (floatOfInt .f64 ((n - n' : Nat) : Int)) := by
      rw [hs]
      show some (Ieee.double.nearest false ((n - n') * 2 ^ K) (-(K : Int))) = _
      rw [nearest_pos (by omega)]
    refine ⟨_, e3, fun ts t w => ?_⟩
    have f0 : FNum 0 0 := by have := fnum_of (n := 0) (by omega); exact this
    rw [FNum.max (fnum_of (n := n - n') (by omega)) f0, if_neg (by omega)]
  · have e1 : ((n : Int) + -(n' : Int)) * 2 ^ K = -((((n' - n) * 2 ^ K : Nat)) : Int) := by
      rw [Int.natCast_mul, Int.natCast_sub (by omega), Int.natCast_pow, ← Int.neg_mul]
      congr 1
      omega
    rw [e1] at hs
    have hpos : 0 < (n' - n) * 2 ^ K := Nat.mul_pos (by omega) hp
    have e2 : (if -((((n' - n) * 2 ^ K : Nat)) : Int) = 0 then false else decide (-((((n' - n) * 2 ^ K : Nat)) : Int) < 0)) = true := by
      rw [if_neg (by omega)]
      exact decide_eq_true (by omega)
    rw [e2, Int.natAbs_neg, Int.natAbs_natCast] at hs
    refine ⟨_, hs, fun ts t w => ?_⟩
    have ho := nearest_neg (n := n' - n) (k := K) (by omega) (by omega)
    have e0 : n - n' = 0 := by omega
    have z0 : floatOfInt .f64 ((0 : Nat) : Int) = 0 := by decide +kernel
    rw [e0, z0]
    show (Builtin.max_ ts t #[.float .f64 (Ieee.double.nearest true ((n' - n) * 2 ^ K) (-(K : Int))), .float .f64 0]).run _ w = _
    simp [Builtin.max_, Builtin.max2, ho]

theorem FNum.zero {n : Nat} (h : n < 2 ^ 53) : (FloatKind.f64.format.order (floatOfInt .f64 (n : Int)) 0 == some .eq) = decide (n = 0) := by
  have f0 : FNum 0 0 := fnum_of (n := 0) (by omega)
  rw [(fnum_of h).order f0]
  unfold ordN
  rw [if_neg (by omega)]
  by_cases e : n = 0
  · rw [if_pos e]; simp [e]
  · rw [if_neg e]; simp [e]

end Go.Proofs.Ytambbgpofmojnaa
