/-
  The least place of a set, and a set without it, as bits.
-/
import Derived.Test.YtiabgomeogcpnaaDoorBit24
namespace Go.Proofs.YtiabgomeogcpnaaDoor
open Go.RowKit

theorem odd_part : ∀ n : Nat, n ≠ 0 → ∃ t m, n = 2 ^ t * (2 * m + 1) := by
  intro n
  induction n using Nat.strongRecOn with
  | ind n ih =>
    intro h0
    by_cases h2 : n % 2 = 1
    · exact ⟨0, n / 2, by omega⟩
    · obtain ⟨t, m, e⟩ := ih (n / 2) (by omega) (by omega)
      refine ⟨t + 1, m, ?_⟩
      rw [Nat.pow_succ, Nat.mul_right_comm, ← e]
      omega

/-- Where the least bit is. -/
def IsTz (n t : Nat) : Prop := ∃ m, n = 2 ^ t * (2 * m + 1)

theorem two_bit (m i : Nat) : (2 * m + 1).testBit (i + 1) = m.testBit i := by
  rw [Nat.testBit_succ]; congr 1; omega
theorem two_bit' (m i : Nat) : (2 * m).testBit (i + 1) = m.testBit i := by
  rw [Nat.testBit_succ]; congr 1; omega

theorem tz_bit {n t : Nat} (h : IsTz n t) (i : Nat) : (n.testBit i = if i < t then false else if i = t then true else n.testBit i) ∧ ((n - 1).testBit i = if i < t then true else if i = t then false else n.testBit i) := by
  obtain ⟨m, rfl⟩ := h
  have hp := Nat.two_pow_pos t
  have e1 : 2 ^ t * (2 * m + 1) - 1 = 2 ^ t * (2 * m) + (2 ^ t - 1) := by
    rw [Nat.mul_add, Nat.mul_one]; omega
  rw [e1, Nat.testBit_two_pow_mul_add _ (by omega), Nat.testBit_two_pow_mul]
  by_cases h1 : i < t
  · have : ¬ (t ≤ i) := by omega
    simp [h1, this, Nat.testBit_two_pow_sub_one]
  · by_cases h2 : i = t
    · subst h2; simp
    · obtain ⟨j, hj⟩ : ∃ j, i - t = j + 1 := ⟨i - t - 1, by omega⟩
      have h3 : t ≤ i := by omega
      simp only [if_neg h1, if_neg h2, hj, two_bit, two_bit', h3, decide_true, Bool.true_and, and_self]

theorem tz_and {n t : Nat} (h : IsTz n t) (i : Nat) : (n &&& (n - 1)).testBit i = (decide (t < i) && n.testBit i) := by
  obtain ⟨h1, h2⟩ := tz_bit h i
  rw [Nat.testBit_and, h2]
  by_cases a : i < t
  · have : ¬ (t < i) := by omega
    rw [h1]; simp [a, this]
  · by_cases b : i = t
    · subst b; simp
    · have : t < i := by omega
      simp [a, b, this]

theorem tz_or {n t : Nat} (h : IsTz n t) : (n &&& (n - 1)) ||| 2 ^ t = n := by
  refine Nat.eq_of_testBit_eq fun i => ?_
  obtain ⟨h1, -⟩ := tz_bit h i
  rw [Nat.testBit_or, tz_and h, Nat.testBit_two_pow]
  by_cases a : i < t
  · have e1 : ¬ (t < i) := by omega
    have e2 : ¬ (t = i) := by omega
    rw [if_pos a] at h1
    simp [e1, e2, h1]
  · by_cases b : i = t
    · subst b
      rw [if_neg a, if_pos rfl] at h1
      simp [h1]
    · have e1 : t < i := by omega
      have e2 : ¬ (t = i) := by omega
      simp [e1, e2]

theorem tz_lt {n t : Nat} (h : IsTz n t) : n &&& (n - 1) < n := by
  have h0 : n ≠ 0 := by
    obtain ⟨m, rfl⟩ := h
    have := Nat.two_pow_pos t
    exact Nat.mul_ne_zero (by omega) (by omega)
  have := Nat.and_le_right (n := n) (m := n - 1)
  omega

theorem tz_24 {n t : Nat} (h : IsTz n t) (hn : n < 2 ^ 24) : t < 24 := by
  obtain ⟨m, rfl⟩ := h
  have : 2 ^ t * 1 ≤ 2 ^ t * (2 * m + 1) := Nat.mul_le_mul_left _ (by omega)
  exact (Nat.pow_lt_pow_iff_right (a := 2) (by omega)).1 (by omega)

theorem putL_front {x : Int} : ∀ {ys : List Int}, (∀ y ∈ ys, x < y) → putL ys x = x :: ys
  | [], _ => rfl
  | y :: ys, h => by
    have := h y (by simp)
    simp only [putL]
    rw [if_neg (by omega), if_neg (by omega)]

theorem bitsL_step {n t : Nat} (h : IsTz n t) (hn : n < 2 ^ 24) : bitsL n = (t : Int) :: bitsL (n &&& (n - 1)) := by
  have e := bitsL_put (m := n &&& (n - 1)) (tz_24 h hn)
  rw [tz_or h] at e
  rw [← e]
  refine putL_front fun y hy => ?_
  obtain ⟨⟨h1, h2⟩, h3⟩ := bitsL_mem.1 hy
  rw [tz_and h, Bool.and_eq_true, decide_eq_true_eq] at h3
  omega

theorem tz_low {n t : Nat} (h : IsTz n t) (hn : n < 2 ^ 24) : n &&& (18446744073709551616 - n) = 2 ^ t := by
  have h0 : n ≠ 0 := by
    obtain ⟨m, rfl⟩ := h
    have := Nat.two_pow_pos t
    exact Nat.mul_ne_zero (by omega) (by omega)
  have ht := tz_24 h hn
  have e : 18446744073709551616 - n = 2 ^ 64 - ((n - 1) + 1) := by
    rw [show (2 : Nat) ^ 64 = 18446744073709551616 from rfl]; omega
  rw [e]
  refine Nat.eq_of_testBit_eq fun i => ?_
  obtain ⟨h1, h2⟩ := tz_bit h i
  have hb : n < 2 ^ 64 := Nat.lt_of_lt_of_le hn (Nat.pow_le_pow_right (by omega) (by omega))
  rw [Nat.testBit_and, Nat.testBit_two_pow_sub_succ (by omega), h2, Nat.testBit_two_pow]
  by_cases a : i < t
  · have e2 : ¬ (t = i) := by omega
    simp [a, e2]
  · by_cases b : i = t
    · subst b
      rw [if_neg a, if_pos rfl] at h1
      have : i < 64 := by omega
      simp [h1, this]
    · have e2 : ¬ (t = i) := by omega
      simp only [if_neg a, if_neg b, e2, decide_false]
      cases n.testBit i <;> simp

end Go.Proofs.YtiabgomeogcpnaaDoor
