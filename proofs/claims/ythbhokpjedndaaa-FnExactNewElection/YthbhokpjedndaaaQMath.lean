/-
  Sets of small numbers as bits: their members in order, one taken away, one that comes last; and rising lists of members beside them.
-/
import Derived.Test.YthbhokpjedndaaaEp
namespace Go.Proofs.Ythbhokpjedndaaa
open Go.RowKit

/-- The members whose bits a number has. -/
def mem7 (n : Nat) : List Nat := (List.range 7).filter fun i => n.testBit i
/-- The least of them. -/
def tz7 (n : Nat) : Nat := (mem7 n).headD 0

theorem mem7_step : ∀ n, n < 128 → n ≠ 0 → mem7 n = tz7 n :: mem7 (n &&& (n - 1)) ∧ n &&& (n - 1) < n ∧ tz7 n < 7 := by decide +kernel
theorem mem7_zero : mem7 0 = [] := by decide +kernel
theorem mem7_lt {n i : Nat} (h : i ∈ mem7 n) : i < 7 := by simp [mem7] at h; exact h.1
theorem mem7_len (n : Nat) : (mem7 n).length ≤ 7 := by unfold mem7; exact Nat.le_trans (List.length_filter_le _ _) (by simp)
theorem mem7_iff {n i : Nat} : i ∈ mem7 n ↔ i < 7 ∧ n.testBit i = true := by simp [mem7]
theorem mem7_snoc : ∀ m, m < 7 → ∀ n, n < 2 ^ m → mem7 (n ||| 2 ^ m) = mem7 n ++ [m] ∧ n ||| 2 ^ m < 2 ^ (m + 1) := by decide +kernel
theorem pow_small : ∀ m, m ≤ 7 → 2 ^ m ≤ 128 := by decide

theorem testBit_big {n i : Nat} (h : n < 128) (hi : 7 ≤ i) : n.testBit i = false :=
  Nat.testBit_lt_two_pow (Nat.lt_of_lt_of_le h (by have := Nat.pow_le_pow_right (n := 2) (by omega) hi; simpa using this))

theorem and_ne_zero {a b : Nat} (ha : a < 128) : a &&& b ≠ 0 ↔ ∃ i, i ∈ mem7 a ∧ i ∈ mem7 b := by
  constructor
  · intro h
    apply Classical.byContradiction
    intro hn
    refine h (Nat.eq_of_testBit_eq fun i => ?_)
    rw [Nat.testBit_and, Nat.zero_testBit]
    by_cases hi : i < 7
    · cases h1 : a.testBit i
      · rfl
      · cases h2 : b.testBit i
        · rfl
        · exact absurd ⟨i, mem7_iff.2 ⟨hi, h1⟩, mem7_iff.2 ⟨hi, h2⟩⟩ hn
    · rw [testBit_big ha (by omega)]; rfl
  · rintro ⟨i, h1, h2⟩ h
    have := congrArg (fun n => n.testBit i) h
    simp [Nat.testBit_and, (mem7_iff.1 h1).2, (mem7_iff.1 h2).2] at this

/-- One set without another. -/
def wo (a b : Nat) : Nat := a &&& (127 ^^^ b)

theorem wo_bit {a b i : Nat} (hi : i < 7) : (wo a b).testBit i = (a.testBit i && !b.testBit i) := by
  have : Nat.testBit 127 i = true := by
    have h : ∀ i, i < 7 → Nat.testBit 127 i = true := by decide
    exact h i hi
  simp [wo, Nat.testBit_and, Nat.testBit_xor, this]

theorem wo_lt {a b : Nat} (h : a < 128) : wo a b < 128 := Nat.lt_of_le_of_lt Nat.and_le_left h

theorem wo_zero {a b : Nat} (ha : a < 128) : wo a b = 0 ↔ ∀ i, i ∈ mem7 a → i ∈ mem7 b := by
  constructor
  · intro h i hi
    have h1 := mem7_iff.1 hi
    refine mem7_iff.2 ⟨h1.1, ?_⟩
    have := congrArg (fun n => n.testBit i) h
    simp only [Nat.zero_testBit] at this
    rw [wo_bit h1.1, h1.2] at this
    simpa using this
  · intro h
    refine Nat.eq_of_testBit_eq fun i => ?_
    rw [Nat.zero_testBit]
    by_cases hi : i < 7
    · rw [wo_bit hi]
      cases h1 : a.testBit i
      · rfl
      · simp [(mem7_iff.1 (h i (mem7_iff.2 ⟨hi, h1⟩))).2]
    · exact testBit_big (wo_lt ha) (by omega)

/-- Members of a set without one of them. -/
theorem mem7_wo : ∀ n, n < 128 → ∀ i, i < (mem7 n).length → mem7 (wo n (2 ^ ((mem7 n).getD i 0))) = (mem7 n).eraseIdx i := by decide +kernel

/-- The first k of a list rise, and are members below a number. -/
def riseTo (l : List Int) (many : Int) (k : Nat) : Prop := ∀ i, i < k → 0 ≤ zA l i ∧ zA l i < many ∧ (0 < i → zA l (i - 1) < zA l i)
instance (l : List Int) (many : Int) (k : Nat) : Decidable (riseTo l many k) := by unfold riseTo; infer_instance
def riseB (l : List Int) (many : Int) : Bool := decide (riseTo l many l.length)

theorem riseB_t {l : List Int} {many : Int} : riseB l many = true ↔ riseTo l many l.length := by simp [riseB]
theorem riseB_f {l : List Int} {many : Int} {k : Nat} (hk : k < l.length) (h : ¬ (0 ≤ zA l k ∧ zA l k < many ∧ (0 < k → zA l (k - 1) < zA l k))) : riseB l many = false := by
  simp only [riseB, decide_eq_false_iff_not]
  exact fun g => h (g k hk)

theorem riseTo_succ {l : List Int} {many : Int} {k : Nat} (h : riseTo l many k) (h0 : 0 ≤ zA l k) (h1 : zA l k < many) (h2 : 0 < k → zA l (k - 1) < zA l k) : riseTo l many (k + 1) := fun i hi => by
  by_cases e : i = k
  · subst e; exact ⟨h0, h1, h2⟩
  · exact h i (by omega)

theorem riseTo_le {l : List Int} {many : Int} {k j : Nat} (h : riseTo l many k) (hj : j ≤ k) : riseTo l many j := fun i hi => h i (by omega)

/-- The bits of a list's first k. -/
def mskTo (l : List Int) : Nat → Nat
  | 0 => 0
  | k + 1 => mskTo l k ||| 2 ^ (zA l k).toNat
def msk (l : List Int) : Nat := mskTo l l.length
/-- What the next one must be at least. -/
def leastTo (l : List Int) : Nat → Nat
  | 0 => 0
  | k + 1 => (zA l k).toNat + 1

theorem mem7_mskTo {l : List Int} {many : Int} (hm : many ≤ 7) : ∀ k, k ≤ l.length → riseTo l many k → mem7 (mskTo l k) = (l.take k).map Int.toNat ∧ mskTo l k < 2 ^ leastTo l k ∧ leastTo l k ≤ 7
  | 0, _, _ => ⟨by simp [mskTo, mem7_zero], by simp [mskTo, leastTo], by simp [leastTo]⟩
  | k + 1, hk, h => by
    obtain ⟨h1, h2, h3⟩ := mem7_mskTo hm k (by omega) (riseTo_le h (by omega))
    obtain ⟨g0, g1, g2⟩ := h k (by omega)
    have hl : leastTo l k ≤ (zA l k).toNat := by
      cases k with
      | zero => simp [leastTo]
      | succ j =>
        have := g2 (by omega)
        simp only [Nat.add_sub_cancel] at this
        have := (h j (by omega)).1
        simp only [leastTo]; omega
    have h4 : mskTo l k < 2 ^ (zA l k).toNat := Nat.lt_of_lt_of_le h2 (Nat.pow_le_pow_right (by omega) hl)
    obtain ⟨s1, s2⟩ := mem7_snoc (zA l k).toNat (by omega) _ h4
    refine ⟨?_, s2, by simp only [leastTo]; omega⟩
    show mem7 (mskTo l k ||| 2 ^ (zA l k).toNat) = _
    rw [s1, h1, takeInt_snoc (zA_get (by omega))]
    simp

theorem mem7_msk {l : List Int} {many : Int} (hm : many ≤ 7) (h : riseB l many = true) : mem7 (msk l) = l.map Int.toNat ∧ msk l < 128 := by
  obtain ⟨h1, h2, h3⟩ := mem7_mskTo hm l.length (Nat.le_refl _) (riseB_t.1 h)
  rw [List.take_length] at h1
  exact ⟨h1, Nat.lt_of_lt_of_le h2 (pow_small _ h3)⟩

theorem rise_mem {l : List Int} {many : Int} (h : riseB l many = true) {z : Int} (hz : z ∈ l) : 0 ≤ z ∧ z < many := by
  obtain ⟨i, hi⟩ := List.getElem?_of_mem hz
  have hlt := (List.getElem?_eq_some_iff.1 hi).1
  have := riseB_t.1 h i hlt
  rw [zA_some hi] at this
  exact ⟨this.1, this.2.1⟩

theorem mem_msk {l : List Int} {many : Int} (hm : many ≤ 7) (h : riseB l many = true) {i : Nat} : i ∈ mem7 (msk l) ↔ (i : Int) ∈ l := by
  rw [(mem7_msk hm h).1, List.mem_map]
  constructor
  · rintro ⟨z, hz, rfl⟩
    rwa [Int.toNat_of_nonneg (rise_mem h hz).1]
  · exact fun hi => ⟨_, hi, by simp⟩

/-- Two lists have one in common; a list has all of another. -/
def meetL (a b : List Int) : Bool := a.any fun n => b.contains n
def hasL (a b : List Int) : Bool := b.all fun n => a.contains n

theorem meet_msk {a b : List Int} {many : Int} (hm : many ≤ 7) (ha : riseB a many = true) (hb : riseB b many = true) : meetL a b = (msk a &&& msk b != 0) := by
  rw [Bool.eq_iff_iff, bne_iff_ne, and_ne_zero (mem7_msk hm ha).2]
  simp only [meetL, List.any_eq_true, List.contains_iff_mem]
  constructor
  · rintro ⟨z, h1, h2⟩
    have := rise_mem ha h1
    refine ⟨z.toNat, (mem_msk hm ha).2 ?_, (mem_msk hm hb).2 ?_⟩ <;> rwa [Int.toNat_of_nonneg this.1]
  · rintro ⟨i, h1, h2⟩
    exact ⟨i, (mem_msk hm ha).1 h1, (mem_msk hm hb).1 h2⟩

theorem has_msk {a b : List Int} {many : Int} (hm : many ≤ 7) (ha : riseB a many = true) (hb : riseB b many = true) : hasL a b = (wo (msk b) (msk a) == 0) := by
  rw [Bool.eq_iff_iff, beq_iff_eq, wo_zero (mem7_msk hm hb).2]
  simp only [hasL, List.all_eq_true, List.contains_iff_mem]
  constructor
  · intro h i hi
    exact (mem_msk hm ha).2 (h _ ((mem_msk hm hb).1 hi))
  · intro h z hz
    have := rise_mem hb hz
    have g := h z.toNat ((mem_msk hm hb).2 (by rwa [Int.toNat_of_nonneg this.1]))
    have g2 := (mem_msk hm ha).1 g
    rwa [Int.toNat_of_nonneg this.1] at g2

end Go.Proofs.Ythbhokpjedndaaa
