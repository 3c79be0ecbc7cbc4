/-
  What blocks groups, in plain mathematics: none survives it, one survives less, and each group of a coterie has all of one.
-/
import Derived.Test.YtdibddkhjefmlaaDoorQBO
import Derived.Test.YtdibddkhjefmlaaDoorQSpec2
import Derived.Test.YtdibddkhjefmlaaDoorQIsq
import Derived.Test.YtdibddkhjefmlaaDoorQLQs
namespace Go.Proofs.YtdibddkhjefmlaaDoor
open Go.RowKit

theorem meet_comm (a b : List Int) : meetL a b = meetL b a := by
  rw [Bool.eq_iff_iff]
  unfold meetL
  rw [List.any_eq_true, List.any_eq_true]
  constructor
  · rintro ⟨x, h1, h2⟩; exact ⟨x, List.contains_iff_mem.1 h2, List.contains_iff_mem.2 h1⟩
  · rintro ⟨x, h1, h2⟩; exact ⟨x, List.contains_iff_mem.1 h2, List.contains_iff_mem.2 h1⟩
theorem meet_iff {a b : List Int} : meetL a b = true ↔ ∃ x, x ∈ a ∧ x ∈ b := by
  unfold meetL
  rw [List.any_eq_true]
  constructor
  · rintro ⟨x, h1, h2⟩; exact ⟨x, h1, List.contains_iff_mem.1 h2⟩
  · rintro ⟨x, h1, h2⟩; exact ⟨x, h1, List.contains_iff_mem.2 h2⟩
theorem surv_bl (L : List (List Int)) (f : List Int) : survL L f = !blL L f := by
  unfold survL blL
  rw [Bool.eq_iff_iff]
  simp
/-- A set that is enough has a least one in it. -/
theorem least_in (en : Nat → Bool) : ∀ (k n : Nat), (mem7 n).length ≤ k → n < 128 → en n = true → ∃ m, m < 128 ∧ lstB en m = true ∧ m ≤ n ∧ ∀ i, i ∈ mem7 m → i ∈ mem7 n
  | 0, n, hk, hn, he => ⟨n, hn, by unfold lstB; rw [he, Bool.true_and]; unfold ndE; rw [List.length_eq_zero_iff.1 (by omega : (mem7 n).length = 0)]; rfl, Nat.le_refl _, fun i h => h⟩
  | k + 1, n, hk, hn, he => by
    cases hl : ndE en n with
    | true => exact ⟨n, hn, by unfold lstB; rw [he, hl]; rfl, Nat.le_refl _, fun i h => h⟩
    | false =>
      have hex : ∃ m, m ∈ mem7 n ∧ en (wo n (2 ^ m)) = true := by
        apply Classical.byContradiction
        intro hno
        have : ndE en n = true := List.all_eq_true.2 fun m hm => by
          cases h : en (wo n (2 ^ m)) with
          | false => rfl
          | true => exact absurd ⟨m, hm, h⟩ hno
        rw [hl] at this; cases this
      obtain ⟨m, hm, hen⟩ := hex
      obtain ⟨i, hi⟩ := List.getElem?_of_mem hm
      have hil := (List.getElem?_eq_some_iff.1 hi).1
      have hgd : (mem7 n).getD i 0 = m := by rw [List.getD_eq_getElem?_getD, hi]; rfl
      have hwo := mem7_wo n hn i hil
      rw [hgd] at hwo
      have hlen : (mem7 (wo n (2 ^ m))).length ≤ k := by rw [hwo, List.length_eraseIdx_of_lt hil]; omega
      obtain ⟨r, r1, r2, r3, r4⟩ := least_in en k (wo n (2 ^ m)) hlen (wo_lt hn) hen
      refine ⟨r, r1, r2, Nat.le_trans r3 Nat.and_le_left, fun j hj => ?_⟩
      have := r4 j hj
      rw [hwo] at this
      exact List.mem_of_mem_eraseIdx this
theorem mi_mem {n : Nat} {z : Int} : z ∈ mi n ↔ ∃ i, i ∈ mem7 n ∧ z = (i : Int) := by
  unfold mi
  rw [List.mem_map]
  constructor
  · rintro ⟨i, h1, rfl⟩; exact ⟨i, h1, rfl⟩
  · rintro ⟨i, h1, rfl⟩; exact ⟨i, h1, rfl⟩
/-- What is told of one that blocks. -/
structure BlkF (L : List (List Int)) (x : List Int) : Prop where
  rise : riseB x 7 = true
  none : survL L x = false
  less : ∀ i, i < x.length → riseB (x.eraseIdx i) 7 = true ∧ survL L (x.eraseIdx i) = true
theorem blk_all {z : Int} {L : List (List Int)} (h : boOk z L = true) : ∀ x, x ∈ boL z L → BlkF L x := fun x hx => by
  have hL : boL z L = lstTo (boEn L) (2 ^ z.toNat) := by unfold boL; rw [if_pos h]
  simp only [boOk, boPre, Bool.and_eq_true] at h
  obtain ⟨⟨h1, h2⟩, -⟩ := h
  have hz := inB_t.1 h1
  have hp : 2 ^ z.toNat ≤ 128 := pow_small _ (by omega)
  rw [hL] at hx
  unfold lstTo at hx
  obtain ⟨n, hn, rfl⟩ := List.mem_map.1 hx
  obtain ⟨hn1, hn2⟩ := List.mem_filter.1 hn
  have hn3 : n < 128 := Nat.lt_of_lt_of_le (List.mem_range.1 hn1) hp
  unfold lstB at hn2
  rw [Bool.and_eq_true] at hn2
  refine ⟨(mi_rise n hn3).1, by rw [surv_bl, bl_en (by omega) h2 hn3, hn2.1]; rfl, fun i hi => ?_⟩
  rw [mi_erase hn3 hi]
  have hw : wo n (2 ^ (mem7 n).getD i 0) < 128 := wo_lt hn3
  refine ⟨(mi_rise _ hw).1, ?_⟩
  rw [surv_bl, bl_en (by omega) h2 hw]
  have hil : i < (mem7 n).length := by unfold mi at hi; rwa [List.length_map] at hi
  have hm : (mem7 n).getD i 0 ∈ mem7 n := by rw [List.getD_eq_getElem?_getD, List.getElem?_eq_getElem hil]; exact List.getElem_mem hil
  have := List.all_eq_true.1 hn2.2 _ hm
  simpa using this
/-- Each group of a coterie has all of one that blocks. -/
theorem cot_has {z : Int} {L : List (List Int)} (h : boOk z L = true) (hc : allL L = true) : ∀ g, g ∈ L → ∃ x, x ∈ boL z L ∧ ∀ n, n ∈ x → n ∈ g := fun g hg => by
  have hL : boL z L = lstTo (boEn L) (2 ^ z.toNat) := by unfold boL; rw [if_pos h]
  simp only [boOk, boPre, Bool.and_eq_true] at h
  obtain ⟨⟨h1, h2⟩, -⟩ := h
  have hz := inB_t.1 h1
  have hgt := (goodL_t.1 h2).1
  obtain ⟨i, hi⟩ := List.getElem?_of_mem hg
  have hil := (List.getElem?_eq_some_iff.1 hi).1
  have hgi : lA L i = g := lA_some hi
  have hri := (hgt i hil).2
  have hne := (hgt i hil).1
  rw [hgi] at hri hne
  obtain ⟨m1, m2⟩ := mem7_msk (by omega) hri
  have hmi : mi (msk g) = g := mi_msk (by omega) hri
  have hbl : blL L g = true := by
    unfold blL
    rw [all_lA2]
    intro j hj
    rcases Nat.lt_trichotomy i j with c | c | c
    · have := allL_t.1 hc j hj i c
      rw [hgi] at this; exact this
    · subst c
      rw [hgi, meet_iff]
      obtain ⟨y, hy⟩ := List.exists_mem_of_length_pos hne
      exact ⟨y, hy, hy⟩
    · have := allL_t.1 hc i hil j c
      rw [hgi, meet_comm] at this; exact this
  have hen : boEn L (msk g) = true := by rw [← bl_en (by omega) h2 m2, hmi]; exact hbl
  obtain ⟨m, k1, k2, k3, k4⟩ := least_in (boEn L) _ (msk g) (Nat.le_refl _) m2 hen
  have hm2 : m < 2 ^ z.toNat := by
    have : msk g < 2 ^ z.toNat := by
      apply Nat.lt_pow_two_of_testBit
      intro t ht
      rw [Bool.eq_false_iff]
      intro hb
      have ht7 : t < 7 := by
        apply Classical.byContradiction
        intro h7
        rw [testBit_big m2 (by omega)] at hb; cases hb
      have : (t : Int) ∈ g := (mem_msk (by omega) hri).1 (mem7_iff.2 ⟨ht7, hb⟩)
      have := rise_mem hri this
      omega
    omega
  refine ⟨mi m, ?_, fun n hn => ?_⟩
  · rw [hL]
    unfold lstTo
    exact List.mem_map_of_mem (List.mem_filter.2 ⟨List.mem_range.2 hm2, k2⟩)
  · obtain ⟨t, t1, rfl⟩ := mi_mem.1 hn
    rw [← hmi]
    exact mi_mem.2 ⟨t, k4 t t1, rfl⟩

end Go.Proofs.YtdibddkhjefmlaaDoor
