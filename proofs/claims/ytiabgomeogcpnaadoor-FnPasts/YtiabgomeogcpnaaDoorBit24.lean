/-
  Sets of places below 24 as bits, and as rising lists: one put among them, several put among them.
-/
import Derived.Test.YtiabgomeogcpnaaDoorPutL
namespace Go.Proofs.YtiabgomeogcpnaaDoor
open Go.RowKit

/-- The places from 0 on as numbers. -/
def rng (n : Nat) : List Int := (List.range n).map fun (i : Nat) => (i : Int)
def bitB (m : Nat) (z : Int) : Bool := m.testBit z.toNat
/-- The places whose bits a number has. -/
def bitsL (m : Nat) : List Int := (rng 24).filter (bitB m)

theorem rng_pw (n : Nat) : (rng n).Pairwise (· < ·) := by
  unfold rng
  rw [List.pairwise_map]
  exact (List.pairwise_lt_range (n := n)).imp (by intro a b h; omega)
theorem rng_mem {n : Nat} {z : Int} : z ∈ rng n ↔ 0 ≤ z ∧ z < n := by
  unfold rng
  rw [List.mem_map]
  constructor
  · rintro ⟨i, hi, rfl⟩
    have := List.mem_range.1 hi
    omega
  · intro h
    exact ⟨z.toNat, List.mem_range.2 (by omega), by omega⟩
theorem bitsL_len (m : Nat) : (bitsL m).length ≤ 24 := by
  unfold bitsL
  refine Nat.le_trans (List.length_filter_le _ _) ?_
  simp [rng]
theorem bitsL_mem {m : Nat} {z : Int} : z ∈ bitsL m ↔ (0 ≤ z ∧ z < 24) ∧ m.testBit z.toNat = true := by
  unfold bitsL bitB
  rw [List.mem_filter, rng_mem]
  rfl
theorem bitsL_zero : bitsL 0 = [] := by
  unfold bitsL
  rw [List.filter_eq_nil_iff]
  intro z _
  simp [bitB]

theorem putL_filter (p : Int → Bool) (x : Int) : ∀ rs : List Int, rs.Pairwise (· < ·) → x ∈ rs → putL (rs.filter p) x = rs.filter fun z => p z || z == x
  | [], _, h => by simp at h
  | r :: rs, hp, hx => by
    obtain ⟨h1, h2⟩ := List.pairwise_cons.1 hp
    by_cases hr : r = x
    · subst hr
      have e : rs.filter (fun z => p z || z == r) = rs.filter p := List.filter_congr fun z hz => by
        have := h1 z hz
        have : (z == r) = false := by simp; omega
        simp [this]
      have e2 : ((r :: rs).filter fun z => p z || z == r) = r :: rs.filter p := by
        rw [List.filter_cons_of_pos (by simp), e]
      rw [e2]
      cases hpr : p r
      · rw [List.filter_cons_of_neg (by simp [hpr])]
        cases hf : rs.filter p with
        | nil => rfl
        | cons y ys =>
          have hy : y ∈ rs.filter p := by rw [hf]; simp
          have := h1 y (List.mem_filter.1 hy).1
          simp only [putL]
          rw [if_neg (by omega), if_neg (by omega)]
      · rw [List.filter_cons_of_pos (by simp [hpr])]
        simp [putL]
    · have hx2 : x ∈ rs := by simpa [Ne.symm hr] using hx
      have hlt := h1 x hx2
      have ih := putL_filter p x rs h2 hx2
      have hrx : (r == x) = false := by simp; exact hr
      cases hpr : p r
      · rw [List.filter_cons_of_neg (by simp [hpr]), List.filter_cons_of_neg (by simp [hpr, hrx]), ih]
      · rw [List.filter_cons_of_pos (by simp [hpr]), List.filter_cons_of_pos (by simp [hpr])]
        simp only [putL]
        rw [if_pos hlt, ih]

theorem bitsL_put {m x : Nat} (hx : x < 24) : putL (bitsL m) (x : Int) = bitsL (m ||| 2 ^ x) := by
  unfold bitsL
  rw [putL_filter _ _ _ (rng_pw 24) (rng_mem.2 (by omega))]
  refine List.filter_congr fun z hz => ?_
  have h := rng_mem.1 hz
  unfold bitB
  rw [Nat.testBit_or, Nat.testBit_two_pow]
  congr 1
  rw [Bool.eq_iff_iff]
  simp
  omega

/-- The bits of the first j of a list put to those that are there. -/
def orB (xs : List Int) (m : Nat) : Nat → Nat
  | 0 => m
  | j + 1 => orB xs m j ||| 2 ^ (zA xs j).toNat

theorem orB_bit (xs : List Int) (m : Nat) (h0 : ∀ z ∈ xs, 0 ≤ z) (i : Nat) : ∀ j, j ≤ xs.length → ((orB xs m j).testBit i = true ↔ m.testBit i = true ∨ (i : Int) ∈ xs.take j)
  | 0, _ => by simp [orB]
  | j + 1, hj => by
    have ih := orB_bit xs m h0 i j (by omega)
    have hz := h0 _ (List.mem_of_getElem? (zA_get (by omega : j < xs.length)))
    rw [orB, Nat.testBit_or, Bool.or_eq_true, ih, Nat.testBit_two_pow, takeInt_snoc (zA_get (by omega)), List.mem_append, List.mem_singleton]
    simp only [decide_eq_true_eq]
    constructor
    · rintro ((h | h) | h)
      · exact .inl h
      · exact .inr (.inl h)
      · exact .inr (.inr (by omega))
    · rintro (h | h | h)
      · exact .inl (.inl h)
      · exact .inl (.inr h)
      · exact .inr (by omega)

theorem orB_all {k m : Nat} (hk : k < 2 ^ 24) : orB (bitsL k) m (bitsL k).length = m ||| k := by
  refine Nat.eq_of_testBit_eq fun i => ?_
  rw [Bool.eq_iff_iff, orB_bit _ _ (fun z hz => (bitsL_mem.1 hz).1.1) _ _ (Nat.le_refl _), List.take_length, bitsL_mem, Nat.testBit_or, Bool.or_eq_true]
  constructor
  · rintro (h | h)
    · exact .inl h
    · exact .inr (by simpa using h.2)
  · rintro (h | h)
    · exact .inl h
    · by_cases hi : i < 24
      · exact .inr ⟨by omega, by simpa using h⟩
      · rw [Nat.testBit_lt_two_pow (Nat.lt_of_lt_of_le hk (Nat.pow_le_pow_right (by omega) (by omega)))] at h
        cases h

theorem or_small {a b n : Nat} (ha : a < 2 ^ n) (hb : b < 2 ^ n) : a ||| b < 2 ^ n := Nat.or_lt_two_pow ha hb
theorem bit_small {x n : Nat} (h : x < n) : 2 ^ x < 2 ^ n := Nat.pow_lt_pow_right (by omega) h

theorem and_bit (m x : Nat) : (m &&& 2 ^ x != 0) = m.testBit x := by
  rw [Bool.eq_iff_iff, bne_iff_ne]
  constructor
  · intro h
    apply Classical.byContradiction
    intro hn
    refine h (Nat.eq_of_testBit_eq fun i => ?_)
    rw [Nat.testBit_and, Nat.testBit_two_pow, Nat.zero_testBit]
    by_cases e : x = i
    · subst e; simp at hn; simp [hn]
    · simp [e]
  · intro h e
    have := congrArg (fun n => n.testBit x) e
    simp [Nat.testBit_and, h] at this

end Go.Proofs.YtiabgomeogcpnaaDoor
