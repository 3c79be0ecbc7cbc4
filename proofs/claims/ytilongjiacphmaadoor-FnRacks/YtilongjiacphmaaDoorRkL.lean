/-
  Each home's copies are a rising list that has as many racks as it can: plain mathematics.
-/
import Derived.Test.YtilongjiacphmaaDoorHmRI
namespace Go.Proofs.YtilongjiacphmaaDoor
open Go.RowKit

theorem mi_up : ∀ n : Nat, n < 128 → riseB (mi n) 7 = true := by decide +kernel
theorem nxt_isfresh {rk l : List Int} {h : Nat} (hh : h < rk.length) (hm : (h : Int) ∈ l) (hf : freB rk l = true) : ∃ y : Nat, y < rk.length ∧ nxtR rk h l = (y : Int) ∧ fA rk l y = true := by
  obtain ⟨r, hr, hq⟩ := List.any_eq_true.1 hf
  obtain ⟨x, hx⟩ := List.getElem?_of_mem hr
  have hxl := (List.getElem?_eq_some_iff.1 hx).1
  rw [zA_get hxl] at hx
  obtain ⟨i, i1, i2⟩ := atR_all hh hxl
  have hi : fA rk l (atR rk.length h i) = true := by rw [i2]; unfold fA; rw [Option.some.inj hx]; exact hq
  have hex : ∃ k, k < rk.length ∧ fA rk l (atR rk.length h k) = true ∧ ∀ j, j < k → fA rk l (atR rk.length h j) = false := by
    clear i2
    induction i using Nat.strongRecOn with
    | _ i ih =>
      by_cases c : ∃ j, j < i ∧ fA rk l (atR rk.length h j) = true
      · obtain ⟨j, j1, j2⟩ := c
        exact ih j j1 (by omega) j2
      · exact ⟨i, i1, hi, fun j hj => by
          rw [Bool.eq_false_iff]
          exact fun d => c ⟨j, hj, d⟩⟩
  obtain ⟨k, k1, k2, k3⟩ := hex
  exact ⟨_, Nat.mod_lt _ (by omega), nxt_fresh hh hm k1 k2 k3, k2⟩
/-- The lists are sets of bits. -/
theorem grw_bits {rk : List Int} {h : Nat} (hl : rk.length ≤ 6) (hh : h < rk.length) : ∀ m, m ≤ 2 → m < rk.length → ∃ s, s < 128 ∧ mi s = grwL rk h m
  | 0, _, _ => by
    obtain ⟨h1, h2⟩ := mi_only (by omega : h < 7)
    exact ⟨_, h2, h1⟩
  | m + 1, h2, h3 => by
    obtain ⟨s, s1, s2⟩ := grw_bits hl hh m (by omega) (by omega)
    obtain ⟨i1, i2, i3⟩ := grwL_ok hh m (by omega) (by omega)
    obtain ⟨y, y1, y2, y3⟩ := nxtR_ok hh i2 (by omega) (by omega)
    obtain ⟨n1, n2⟩ := grw_set s1 s2 y2 (by omega)
    exact ⟨_, n2, n1⟩
theorem grw_rise {rk : List Int} {h : Nat} (hl : rk.length ≤ 6) (hh : h < rk.length) {m : Nat} (h1 : m ≤ 2) (h2 : m < rk.length) : riseB (grwL rk h m) rk.length = true := by
  obtain ⟨s, s1, s2⟩ := grw_bits hl hh m h1 h2
  obtain ⟨-, -, i3⟩ := grwL_ok hh m h1 h2
  have := riseB_t.1 (mi_up s s1)
  rw [s2] at this
  refine riseB_t.2 fun i hi => ?_
  have e := this i hi
  have e2 := i3 _ (List.mem_of_getElem? (zA_get hi))
  exact ⟨e2.1, e2.2, e.2.2⟩
/-- Which racks a list has, as bits. -/
theorem rk_bits {rk l : List Int} {x : Nat} : (rkTo rk l l.length).testBit x = true ↔ ∃ z, z ∈ l ∧ (zA rk z.toNat).toNat = x := by
  rw [rkTo_bit]
  constructor
  · rintro ⟨j, h1, h2⟩; exact ⟨zA l j, List.mem_of_getElem? (zA_get h1), h2⟩
  · rintro ⟨z, hz, e⟩
    obtain ⟨j, hj⟩ := List.getElem?_of_mem hz
    have hl := (List.getElem?_eq_some_iff.1 hj).1
    rw [zA_get hl] at hj
    exact ⟨j, hl, by rw [Option.some.inj hj]; exact e⟩
theorem grw_many {rk : List Int} {h : Nat} (h3 : Rk3 rk) (hh : h < rk.length) : ∀ m, m ≤ 2 → m < rk.length → min (m + 1) (allTo' rk rk.length).length ≤ (mnyTo rk (grwL rk h m) (grwL rk h m).length).length
  | 0, _, _ => by
    have : (mnyTo rk [(h : Int)] 1).length = 1 := by simp [mnyTo, putL]
    show min (0 + 1) _ ≤ (mnyTo rk [(h : Int)] 1).length
    omega
  | m + 1, h1, h2 => by
    have ih := grw_many h3 hh m (by omega) (by omega)
    obtain ⟨i1, i2, i3⟩ := grwL_ok hh m (by omega) (by omega)
    rw [← rkTo_mny h3] at ih ⊢
    rw [← mny_all rk.length (Nat.le_refl _), ← rkTo_mny h3] at ih ⊢
    cases hf : freB rk (grwL rk h m) with
    | true =>
      obtain ⟨y, y1, y2, y3⟩ := nxt_isfresh hh i2 hf
      have hfr : hasR rk (grwL rk h m) (zA rk y) = false := by unfold fA at y3; simpa using y3
      have hr4 := rk_at h3 y
      have hT := rkTo_lt h3 (grwL rk h m) (grwL rk h m).length
      have he : rkTo rk (grwL rk h (m + 1)) (grwL rk h (m + 1)).length = rkTo rk (grwL rk h m) (grwL rk h m).length ||| 2 ^ (zA rk y).toNat := by
        apply Nat.eq_of_testBit_eq
        intro x
        rw [Bool.eq_iff_iff, rk_bits, Nat.testBit_or, Bool.or_eq_true, rk_bits, Nat.testBit_two_pow, decide_eq_true_eq, grwL, y2]
        constructor
        · rintro ⟨z, hz, e⟩
          rcases (putL_mem _ _ _).1 hz with rfl | hz
          · right; rw [Int.toNat_natCast] at e; exact e
          · exact .inl ⟨z, hz, e⟩
        · rintro (⟨z, hz, e⟩ | e)
          · exact ⟨z, (putL_mem _ _ _).2 (.inr hz), e⟩
          · exact ⟨(y : Int), (putL_mem _ _ _).2 (.inl rfl), by rw [Int.toNat_natCast]; exact e⟩
      rw [he, mi_put7 _ hT _ (by omega), putL_one]
      · omega
      · intro c
        have hc := List.contains_iff_mem.2 c
        rw [mi_has _ hT _ (by omega), hasR_bit h3, rk_int h3, hfr] at hc
        cases hc
    | false =>
      have hsub : ∀ x, (rkTo rk ((List.range rk.length).map fun h : Nat => (h : Int)) rk.length).testBit x = true → (rkTo rk (grwL rk h (m + 1)) (grwL rk h (m + 1)).length).testBit x = true := fun x hx => by
        obtain ⟨j, j1, j2⟩ := rkTo_bit.1 hx
        rw [iota_at j1, Int.toNat_natCast] at j2
        have hh2 : hasR rk (grwL rk h m) (zA rk j) = true := by
          have : (!hasR rk (grwL rk h m) (zA rk j)) = false := by
            rw [Bool.eq_false_iff]
            intro c
            have : freB rk (grwL rk h m) = true := List.any_eq_true.2 ⟨_, List.mem_of_getElem? (zA_get j1), c⟩
            rw [hf] at this; cases this
          simpa using this
        rw [← rk_int h3 j, ← hasR_bit h3, rk_bits] at hh2
        obtain ⟨z, hz, e⟩ := hh2
        refine rk_bits.2 ⟨z, ?_, e.trans j2⟩
        rw [grwL]
        exact (putL_mem _ _ _).2 (.inr hz)
      have := mi_le hsub
      omega
/-- So all is safe. -/
theorem rac_safe {rk : List Int} {c : Int} (h : racOk rk c = true) : rsB rk (racL rk c) = true ∧ rsA rk (racL rk c) = true ∧ (racL rk c).length = rk.length ∧ ∀ (k : Nat) g, (racL rk c)[k]? = some g → (g.length : Int) = c ∧ (k : Int) ∈ g := by
  have hL : racL rk c = racTo rk (c.toNat - 1) rk.length := by unfold racL; rw [if_pos h]
  simp only [racOk, Bool.and_eq_true] at h
  obtain ⟨h1, h2, h4⟩ := h
  obtain ⟨h3, b1, b2⟩ := rkB_is h1
  have b3 := inB_t.1 h2
  have b4 := of_decide_eq_true h4
  rw [hL]
  have hmem : ∀ g, g ∈ racTo rk (c.toNat - 1) rk.length → ∃ k, k < rk.length ∧ g = grwL rk k (c.toNat - 1) := fun g hg => by
    obtain ⟨k, hk, rfl⟩ := List.mem_map.1 hg
    exact ⟨k, List.mem_range.1 hk, rfl⟩
  have hB : rsB rk (racTo rk (c.toNat - 1) rk.length) = true := by
    unfold rsB
    rw [h1, Bool.true_and]
    refine List.all_eq_true.2 fun g hg => ?_
    obtain ⟨k, hk, rfl⟩ := hmem g hg
    exact grw_rise b2 hk (by omega) (by omega)
  refine ⟨hB, ?_, racTo_len _ _ _, fun k g hg => ?_⟩
  · unfold rsA
    rw [hB, Bool.true_and]
    refine List.all_eq_true.2 fun g hg => ?_
    obtain ⟨k, hk, rfl⟩ := hmem g hg
    have := grw_many h3 hk (c.toNat - 1) (by omega) (by omega)
    obtain ⟨i1, -, -⟩ := grwL_ok hk (c.toNat - 1) (by omega) (by omega)
    unfold safe1
    rw [i1] at this ⊢
    simpa using this
  · have hk := (List.getElem?_eq_some_iff.1 hg).1
    rw [racTo_len] at hk
    have : g = grwL rk k (c.toNat - 1) := by
      unfold racTo at hg
      rw [List.getElem?_map, List.getElem?_range hk] at hg
      exact (Option.some.inj hg).symm
    subst this
    obtain ⟨i1, i2, -⟩ := grwL_ok hk (c.toNat - 1) (by omega) (by omega)
    exact ⟨by rw [i1]; omega, i2⟩

end Go.Proofs.YtilongjiacphmaaDoor
