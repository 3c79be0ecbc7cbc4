/-
  Small whole numbers as floats: what 'float64(n)' reads as, how two such stand to each other, what max and int make of them.
-/
import Derived.Test.YtambbgpofmojnaaZan
import Derived.Laws.FloatArith
import Derived.Laws.Cover3
namespace Go.Proofs.Ytambbgpofmojnaa
open Go.RowKit

theorem cut_none (n : Nat) : Ieee.Toward.even.cut false n 0 = n := by
  simp [Ieee.Toward.cut, Nat.mod_one]

theorem log_rg {n : Nat} (h0 : 0 < n) (h : n < 2 ^ 53) : n.log2 ≤ 52 ∧ 2 ^ 52 ≤ n * 2 ^ (52 - n.log2) ∧ n * 2 ^ (52 - n.log2) < 2 ^ 53 := by
  have h1 := Nat.log2_self_le (n := n) (by omega)
  have h2 := Nat.lt_log2_self (n := n)
  have h3 : n.log2 ≤ 52 := by
    have := (Nat.log2_lt (n := n) (k := 53) (by omega)).2 h
    omega
  refine ⟨h3, ?_, ?_⟩
  · have := Nat.mul_le_mul_right (2 ^ (52 - n.log2)) h1
    rwa [← Nat.pow_add, show n.log2 + (52 - n.log2) = 52 by omega] at this
  · have := (Nat.mul_lt_mul_right (a := 2 ^ (52 - n.log2)) (Nat.two_pow_pos _)).2 h2
    rwa [← Nat.pow_add, show n.log2 + 1 + (52 - n.log2) = 53 by omega] at this

set_option maxRecDepth 10000 in
/-- The word of a small whole number. -/
theorem nearest_nat {n : Nat} (h0 : 0 < n) (h : n < 2 ^ 53) : Ieee.double.nearest false n 0 = (n.log2 + 1022) * 2 ^ 52 + n * 2 ^ (52 - n.log2) := by
  obtain ⟨h1, h2, h3⟩ := log_rg h0 h
  unfold Ieee.Format.nearest
  rw [if_neg (by omega)]
  have e1 : max ((0 : Int) + (n.log2 : Int) - ((Ieee.double.fractionBits : Nat) : Int)) Ieee.double.leastPlace = (n.log2 : Int) - 52 := by
    show max ((0 : Int) + (n.log2 : Int) - 52) (-1074) = _
    omega
  simp only [e1]
  have e2 : ((0 : Int) - ((n.log2 : Int) - 52)).toNat = 52 - n.log2 := by omega
  have e3 : ((n.log2 : Int) - 52 - 0).toNat = 0 := by omega
  have e4 : ((n.log2 : Int) - 52 - Ieee.double.leastPlace).toNat = n.log2 + 1022 := by
    show ((n.log2 : Int) - 52 - (-1074)).toNat = _
    omega
  rw [e2, e3, e4, cut_none, Nat.shiftLeft_eq]
  have w2 : Ieee.double.binade = 2 ^ 52 := rfl
  have w3 : Ieee.double.infRung = 2047 * 2 ^ 52 := rfl
  unfold Ieee.Format.word
  rw [if_neg (by simp), w2, w3, Nat.min_eq_left]
  have h4 : (n.log2 + 1022) * 2 ^ 52 ≤ 1074 * 2 ^ 52 := Nat.mul_le_mul_right _ (by omega)
  have h5 : (2 : Nat) ^ 53 = 2 * 2 ^ 52 := rfl
  rw [h5] at h3
  generalize (2 : Nat) ^ 52 = B at *
  omega

set_option maxRecDepth 10000 in
/-- What it reads as. -/
theorem read_nat {n : Nat} (h0 : 0 < n) (h : n < 2 ^ 53) : Ieee.double.read (Ieee.double.nearest false n 0) = .number false (n * 2 ^ (52 - n.log2)) ((n.log2 : Int) - 52) := by
  obtain ⟨h1, h2, h3⟩ := log_rg h0 h
  rw [nearest_nat h0 h]
  obtain ⟨r, hr⟩ : ∃ r, n * 2 ^ (52 - n.log2) = 2 ^ 52 + r := ⟨n * 2 ^ (52 - n.log2) - 2 ^ 52, by omega⟩
  rw [hr]
  have hr2 : r < 2 ^ 52 := by omega
  have hrw : (n.log2 + 1022) * 2 ^ 52 + (2 ^ 52 + r) = (n.log2 + 1023) * 2 ^ 52 + r := by
    rw [← Nat.add_assoc, ← Nat.succ_mul]
  rw [hrw]
  have hle : (n.log2 + 1023) * 2 ^ 52 ≤ 1075 * 2 ^ 52 := Nat.mul_le_mul_right _ (by omega)
  have hge : 1023 * 2 ^ 52 ≤ (n.log2 + 1023) * 2 ^ 52 := Nat.mul_le_mul_right _ (by omega)
  have hmod : ((n.log2 + 1023) * 2 ^ 52 + r) % 2 ^ 52 = r := by
    rw [Nat.add_comm, Nat.add_mul_mod_self_right, Nat.mod_eq_of_lt hr2]
  have hdiv : ((n.log2 + 1023) * 2 ^ 52 + r) / 2 ^ 52 = n.log2 + 1023 := by
    rw [Nat.add_comm, Nat.add_mul_div_right _ _ (by omega), Nat.div_eq_of_lt hr2]; omega
  have hsm : (n.log2 + 1023) * 2 ^ 52 + r < 2 ^ 63 := by omega
  unfold Ieee.Format.read
  have w1 : Ieee.double.signWeight = 2 ^ 63 := rfl
  have w2 : Ieee.double.binade = 2 ^ 52 := rfl
  have w3 : Ieee.double.infRung = 2047 * 2 ^ 52 := rfl
  have w4 : Ieee.double.leastPlace = -1074 := rfl
  simp only [w1, w2, w3, w4, Nat.mod_eq_of_lt hsm, Nat.div_eq_of_lt hsm]
  rw [if_neg (by omega), if_pos (by omega), hmod, hdiv]
  have e : (-1074 : Int) + ((n.log2 + 1023 - 1 : Nat) : Int) = (n.log2 : Int) - 52 := by omega
  rw [e]
  rfl

theorem read_zero : Ieee.double.read 0 = .number false 0 (-1074) := by decide +kernel

/-- A word that reads as a whole number. -/
def FNum (b n : Nat) : Prop := ∃ m : Nat, ∃ k : Nat, Ieee.double.read b = .number false m (-(k : Int)) ∧ k ≤ 1074 ∧ m = n * 2 ^ k

theorem fnum_of {n : Nat} (h : n < 2 ^ 53) : FNum (floatOfInt .f64 (n : Int)) n := by
  have e : floatOfInt .f64 (n : Int) = Ieee.double.nearest false n 0 := by
    show Ieee.double.nearest (decide ((n : Int) < 0)) (n : Int).natAbs 0 = _
    have : decide ((n : Int) < 0) = false := decide_eq_false (by omega)
    rw [this, Int.natAbs_natCast]
  rw [e]
  by_cases h0 : n = 0
  · subst h0
    obtain ⟨k, hk⟩ : ∃ k : Nat, k = 1074 := ⟨_, rfl⟩
    exact ⟨0, k, by rw [hk]; decide +kernel, by omega, (Nat.zero_mul _).symm⟩
  · obtain ⟨h1, -, -⟩ := log_rg (by omega) h
    refine ⟨_, 52 - n.log2, (read_nat (by omega) h).trans ?_, by omega, rfl⟩
    congr 1
    omega

theorem FNum.neg {b n : Nat} (h : FNum b n) : (FloatKind.f64.decode b).neg = false := by
  obtain ⟨m, k, e, -, -⟩ := h
  show (Ieee.double.read b).neg = false
  rw [e]; rfl

def ordN (n n' : Nat) : Ordering := if n < n' then .lt else if n = n' then .eq else .gt

theorem compare_nat (a b : Nat) : compare (a : Int) (b : Int) = ordN a b := by
  unfold ordN
  show compareOfLessAndEq (a : Int) (b : Int) = _
  unfold compareOfLessAndEq
  by_cases h : a < b
  · rw [if_pos (by omega), if_pos h]
  · rw [if_neg (by omega), if_neg h]
    by_cases h2 : a = b
    · rw [if_pos (by omega), if_pos h2]
    · rw [if_neg (by omega), if_neg h2]

theorem FNum.order {b b' n n' : Nat} (h : FNum b n) (h' : FNum b' n') : FloatKind.f64.format.order b b' = some (ordN n n') := by
  obtain ⟨m, k, e, -, hm⟩ := h
  obtain ⟨m', k', e', -, hm'⟩ := h'
  show (Ieee.double.read b).order (Ieee.double.read b') = _
  rw [e, e']
  show some (compare (Ieee.signed false m (-(k : Int) - min (-(k : Int)) (-(k' : Int))).toNat) (Ieee.signed false m' (-(k' : Int) - min (-(k : Int)) (-(k' : Int))).toNat)) = _
  congr 1
  show compare ((m <<< _ : Nat) : Int) ((m' <<< _ : Nat) : Int) = _
  rw [compare_nat, Nat.shiftLeft_eq, Nat.shiftLeft_eq, hm, hm', Nat.mul_assoc, Nat.mul_assoc, ← Nat.pow_add, ← Nat.pow_add]
  have e1 : k + (-(k : Int) - min (-(k : Int)) (-(k' : Int))).toNat = max k k' := by omega
  have e2 : k' + (-(k' : Int) - min (-(k : Int)) (-(k' : Int))).toNat = max k k' := by omega
  rw [e1, e2]
  have hp := Nat.two_pow_pos (max k k')
  unfold ordN
  by_cases h : n < n'
  · rw [if_pos ((Nat.mul_lt_mul_right hp).2 h), if_pos h]
  · rw [if_neg (fun g => h ((Nat.mul_lt_mul_right hp).1 g)), if_neg h]
    by_cases h2 : n = n'
    · rw [if_pos (by rw [h2]), if_pos h2]
    · rw [if_neg (fun g => h2 (Nat.eq_of_mul_eq_mul_right hp g)), if_neg h2]

theorem FNum.toInt {b n : Nat} (h : FNum b n) (hn : n < 2 ^ 53) : floatToIntVal .f64 b .i64 = some (n : Int) := by
  obtain ⟨m, k, e, -, hm⟩ := h
  have e1 : (FloatKind.f64.decode b).toInt .zero = some (n : Int) := by
    show (Ieee.double.read b).toInt .zero = _
    rw [e]
    show some (Ieee.signed false (Ieee.Toward.zero.cut false (m <<< (-(k : Int)).toNat) (-(-(k : Int))).toNat) 0) = _
    rw [show (-(k : Int)).toNat = 0 by omega, show (-(-(k : Int))).toNat = k by omega]
    have ec : Ieee.Toward.zero.cut false (m <<< 0) k = n := by
      rw [show m <<< 0 = m from rfl]
      unfold Ieee.Toward.cut
      simp only [Bool.toNat_false, Nat.add_zero, Nat.shiftLeft_eq, Nat.one_mul]
      by_cases h0 : n = 0
      · subst h0; simp at hm; subst hm; simp
      · have hk : k ≤ m.log2 + 2 := by
          have h1 : 2 ^ k ≤ m := by rw [hm]; exact Nat.le_mul_of_pos_left _ (by omega)
          have := (Nat.le_log2 (n := m) (k := k) (by have := Nat.two_pow_pos k; omega)).2 h1
          omega
        rw [Nat.min_eq_left hk, hm]
        exact Nat.mul_div_cancel _ (Nat.two_pow_pos k)
    rw [ec]
    show some ((n <<< 0 : Nat) : Int) = _
    simp
  unfold floatToIntVal
  rw [e1]
  show (if IntKind.i64.min ≤ (n : Int) ∧ (n : Int) ≤ IntKind.i64.max then some (n : Int) else none) = _
  rw [if_pos]
  have a1 : IntKind.i64.min = -9223372036854775808 := by decide
  have a2 : IntKind.i64.max = 9223372036854775807 := by decide
  rw [a1, a2]
  omega

section
variable {P : Program}
/-- 'max' of two. -/
theorem FNum.max {b b' n n' : Nat} (h : FNum b n) (h' : FNum b' n') (ts : Array TypeId) (t : TypeId) (w : World) :
    (Builtin.max_ ts t #[.float .f64 b, .float .f64 b']).run P w = .ok (.float .f64 (if n < n' then b' else b)) w := by
  have ho := h.order h'
  have hn := h.neg
  unfold ordN at ho
  by_cases h1 : n < n'
  · rw [if_pos h1] at ho
    simp [Builtin.max_, Builtin.max2, ho, h1]
  · rw [if_neg h1] at ho
    by_cases h2 : n = n'
    · rw [if_pos h2] at ho
      simp [Builtin.max_, Builtin.max2, ho, h1, hn]
    · rw [if_neg h2] at ho
      simp [Builtin.max_, Builtin.max2, ho, h1]
end

theorem fnum_ite {b b' n n' : Nat} (h : FNum b n) (h' : FNum b' n') : FNum (if n < n' then b' else b) (if n < n' then n' else n) := by
  split
  · exact h'
  · exact h

end Go.Proofs.Ytambbgpofmojnaa
