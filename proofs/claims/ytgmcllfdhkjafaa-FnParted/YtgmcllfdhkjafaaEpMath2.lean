/-
  What the marks of a good log tell of its entries: each mark's start has its epoch, and what is told of an epoch ends where a greater one begins; marks cut with the log are the marks of what is left.
-/
import Derived.Test.YtgmcllfdhkjafaaEpMath
import Derived.Test.YtgmcllfdhkjafaaMkCut
namespace Go.Proofs.Ytgmcllfdhkjafaa
open Go.RowKit

theorem okE_sorted {zs : List Int} {k : Nat} (h : okE zs k) : ∀ i j, i ≤ j → j < k → zA zs i ≤ zA zs j := by
  intro i j hij hj
  induction j with
  | zero => obtain rfl : i = 0 := by omega
            exact Int.le_refl _
  | succ j ih =>
    by_cases e : i = j + 1
    · subst e; exact Int.le_refl _
    · have h1 := ih (by omega) (by omega)
      have h2 := (h (j + 1) hj).2.2 (by omega)
      rw [Nat.add_sub_cancel] at h2
      omega

/-- Where each mark's entries lie. -/
structure MkIn (zs : List Int) (k : Nat) (m : List Mk) : Prop where
  st : ∀ j, j < m.length → ∃ s : Nat, (mA m j).st = s ∧ s < k ∧ zA zs s = (mA m j).ep
  run : ∀ j, j < m.length → ∀ i : Nat, (mA m j).st ≤ i → (i : Int) < nxt m k (j + 1) → zA zs i = (mA m j).ep
  up : ∀ i j, i < j → j < m.length → (mA m i).st < (mA m j).st

theorem marksTo_in {zs : List Int} : ∀ {k : Nat}, okE zs k → MkIn zs k (marksTo zs k)
  | 0, _ => ⟨fun i hi => absurd hi (Nat.not_lt_zero _), fun i hi => absurd hi (Nat.not_lt_zero _), fun i j _ hj => absurd hj (Nat.not_lt_zero _)⟩
  | k + 1, h => by
    have hk' : okE zs k := fun i hi => h i (by omega)
    have ih := marksTo_in (zs := zs) hk'
    have ok := marksTo_ok (zs := zs) hk'
    by_cases hc : k = 0 ∨ zA zs (k - 1) ≠ zA zs k
    · rw [marksTo_add hc]
      have hlen : (marksTo zs k ++ [(⟨zA zs k, k⟩ : Mk)]).length = (marksTo zs k).length + 1 := by simp
      refine ⟨fun j hj => ?_, fun j hj i h1 h2 => ?_, fun i j hij hj => ?_⟩
      · rw [hlen] at hj
        by_cases e : j = (marksTo zs k).length
        · subst e; rw [mA_last]; exact ⟨k, rfl, by omega, rfl⟩
        · rw [mA_left (by omega)]
          obtain ⟨s, e1, e2, e3⟩ := ih.st j (by omega)
          exact ⟨s, e1, by omega, e3⟩
      · rw [hlen] at hj
        by_cases e : j = (marksTo zs k).length
        · subst e
          rw [mA_last] at h1 ⊢
          unfold nxt at h2
          rw [hlen, if_neg (by omega)] at h2
          simp only at h1 h2 ⊢
          obtain rfl : i = k := by omega
          rfl
        · rw [mA_left (by omega)] at h1 ⊢
          refine ih.run j (by omega) i h1 ?_
          unfold nxt at h2 ⊢
          rw [hlen, if_pos (by omega)] at h2
          by_cases e2 : j + 1 = (marksTo zs k).length
          · rw [e2, mA_last] at h2
            rw [if_neg (by omega)]
            exact h2
          · rw [mA_left (by omega)] at h2
            rw [if_pos (by omega)]
            exact h2
      · rw [hlen] at hj
        by_cases e : j = (marksTo zs k).length
        · subst e
          rw [mA_last, mA_left hij]
          have := ok.rng i hij
          show (mA (marksTo zs k) i).st < (k : Int)
          omega
        · rw [mA_left (by omega), mA_left (by omega)]
          exact ih.up i j hij (by omega)
    · rw [marksTo_same hc]
      have hk0 : 0 < k := by omega
      have he : zA zs (k - 1) = zA zs k := by
        have : ¬ zA zs (k - 1) ≠ zA zs k := fun h => hc (.inr h)
        omega
      obtain ⟨l0, l1⟩ := ok.lst hk0
      refine ⟨fun j hj => ?_, fun j hj i h1 h2 => ?_, ih.up⟩
      · obtain ⟨s, e1, e2, e3⟩ := ih.st j hj
        exact ⟨s, e1, by omega, e3⟩
      · by_cases e2 : j + 1 < (marksTo zs k).length
        · refine ih.run j hj i h1 ?_
          unfold nxt at h2 ⊢
          rw [if_pos e2] at h2 ⊢
          exact h2
        · unfold nxt at h2
          rw [if_neg e2] at h2
          have ej : j = (marksTo zs k).length - 1 := by omega
          by_cases ei : i = k
          · subst ei; rw [← he, ← l1, ej]
          · refine ih.run j hj i h1 ?_
            unfold nxt
            rw [if_neg e2]
            omega

theorem marksL_in {zs : List Int} (h : goodE zs = true) : MkIn zs zs.length (marksL zs) := marksTo_in (goodE_t.1 h).2

theorem marksTo_first (zs : List Int) : ∀ k, 0 < (marksTo zs (k + 1)).length ∧ mA (marksTo zs (k + 1)) 0 = ⟨zA zs 0, 0⟩
  | 0 => by rw [marksTo_add (.inl rfl)]; exact ⟨by simp [marksTo], rfl⟩
  | k + 1 => by
    have ih := marksTo_first zs k
    by_cases hc : k + 1 = 0 ∨ zA zs (k + 1 - 1) ≠ zA zs (k + 1)
    · rw [marksTo_add hc]
      exact ⟨by simp, by rw [mA_left ih.1]; exact ih.2⟩
    · rw [marksTo_same hc]; exact ih

theorem first_mark (zs : List Int) (h : 0 < zs.length) : (mA (marksL zs) 0).ep = zA zs 0 := by
  obtain ⟨k, hk⟩ : ∃ k, zs.length = k + 1 := ⟨zs.length - 1, by omega⟩
  unfold marksL
  rw [hk, (marksTo_first zs k).2]

/-- How many entries have an epoch of at most this. -/
def IsCnt (zs : List Int) (ep : Int) (c : Nat) : Prop := c ≤ zs.length ∧ (∀ i, i < c → zA zs i ≤ ep) ∧ (c < zs.length → ep < zA zs c)

theorem endL_cnt {zs : List Int} (h : goodE zs = true) (ep : Int) : ∃ c, IsCnt zs ep c ∧ endL (marksL zs) zs.length ep = (if c = 0 then -1 else zA zs (c - 1), (c : Int)) := by
  have ok := marksL_ok h
  have inn := marksL_in h
  have srt := okE_sorted (goodE_t.1 h).2
  have hc := cutN_is (marksL zs) ep
  obtain ⟨j, hj⟩ : ∃ j, cutN (marksL zs) ep = j := ⟨_, rfl⟩
  unfold endL
  rw [hj] at hc ⊢
  by_cases h0 : j = 0
  · subst h0
    refine ⟨0, ⟨Nat.zero_le _, fun i hi => absurd hi (Nat.not_lt_zero _), fun hl => ?_⟩, by simp [endF]⟩
    obtain ⟨l0, -⟩ := ok.lst hl
    have e := hc.2.2 l0
    rw [first_mark zs hl] at e
    exact e
  · have hj1 : j - 1 < (marksL zs).length := by have := hc.1; omega
    have hle := hc.2.1 (j - 1) (by omega)
    obtain ⟨s, e1, e2, e3⟩ := inn.st (j - 1) hj1
    have hnx : ∃ c : Nat, nxt (marksL zs) zs.length j = c ∧ s < c ∧ c ≤ zs.length ∧ (c < zs.length → ep < zA zs c) := by
      unfold nxt
      by_cases hl : j < (marksL zs).length
      · rw [if_pos hl]
        obtain ⟨s', e1', e2', e3'⟩ := inn.st j hl
        refine ⟨s', e1', ?_, by omega, fun _ => ?_⟩
        · have := inn.up (j - 1) j (by omega) hl; omega
        · rw [e3']; exact hc.2.2 hl
      · rw [if_neg hl]
        exact ⟨zs.length, rfl, e2, Nat.le_refl _, fun h => absurd h (Nat.lt_irrefl _)⟩
    obtain ⟨c, c1, c2, c3, c4⟩ := hnx
    have hlast : zA zs (c - 1) = (mA (marksL zs) (j - 1)).ep := by
      refine inn.run (j - 1) hj1 (c - 1) (by rw [e1]; omega) ?_
      rw [show j - 1 + 1 = j by omega, c1]
      omega
    refine ⟨c, ⟨c3, fun i hi => ?_, c4⟩, ?_⟩
    · have := srt i (c - 1) (by omega) (by omega); omega
    · unfold endF
      rw [if_neg h0, if_neg (by omega), c1, hlast]

theorem cnt_of {zs : List Int} (h : goodE zs = true) {ep : Int} {c : Nat} (hc : IsCnt zs ep c) {i : Nat} (hi : i < zs.length) (he : zA zs i = ep) : i < c ∧ zA zs (c - 1) = ep := by
  have srt := okE_sorted (goodE_t.1 h).2
  have hic : i < c := by
    rcases Nat.lt_or_ge i c with h | h
    · exact h
    · have := srt c i h hi; have := hc.2.2 (by omega); omega
  have h1 := srt i (c - 1) (by omega) (by have := hc.1; omega)
  have h2 := hc.2.1 (c - 1) (by omega)
  exact ⟨hic, by omega⟩

theorem zA_take {zs : List Int} {n i : Nat} (h : i < n) : zA (zs.take n) i = zA zs i := by
  unfold zA; rw [List.getD_eq_getElem?_getD, List.getD_eq_getElem?_getD, List.getElem?_take_of_lt h]

theorem marksTo_take {zs : List Int} {n : Nat} : ∀ {k}, k ≤ n → marksTo (zs.take n) k = marksTo zs k
  | 0, _ => rfl
  | k + 1, h => by
    have ih := marksTo_take (zs := zs) (n := n) (k := k) (by omega)
    unfold marksTo
    rw [ih, zA_take (by omega)]
    by_cases h0 : k = 0
    · subst h0; simp; exact zA_take (by omega)
    · rw [zA_take (by omega)]

theorem filter_marks (zs : List Int) (n : Nat) : ∀ k, (marksTo zs k).filter (fun x => decide (x.st < (n : Int))) = marksTo zs (min k n)
  | 0 => by simp [marksTo]
  | k + 1 => by
    have ih := filter_marks zs n k
    by_cases hc : k = 0 ∨ zA zs (k - 1) ≠ zA zs k
    · rw [marksTo_add hc, List.filter_append, ih]
      by_cases hn : k < n
      · rw [show min k n = k by omega, show min (k + 1) n = k + 1 by omega, marksTo_add hc]
        congr 1
        simp [hn]
      · rw [show min k n = n by omega, show min (k + 1) n = n by omega]
        simp [hn]
    · rw [marksTo_same hc, ih]
      by_cases hn : k < n
      · rw [show min k n = k by omega, show min (k + 1) n = k + 1 by omega, marksTo_same hc]
      · rw [show min k n = n by omega, show min (k + 1) n = n by omega]

/-- The marks of what is left. -/
theorem cut_marks {zs : List Int} {n : Nat} (h : n ≤ zs.length) : cutTo (marksL zs) n (marksL zs).length = marksL (zs.take n) := by
  unfold cutTo marksL
  rw [List.take_length, filter_marks, List.length_take, show min zs.length n = n by omega, show min n zs.length = n by omega, marksTo_take (Nat.le_refl _)]

theorem goodE_take {zs : List Int} {n : Nat} (h : goodE zs = true) : goodE (zs.take n) = true := by
  obtain ⟨h1, h2⟩ := goodE_t.1 h
  have hl := List.length_take_le n zs
  have hl2 := List.length_take_le' n zs
  refine goodE_t.2 ⟨by omega, fun i hi => ?_⟩
  rw [zA_take (by omega)]
  have := h2 i (by omega)
  by_cases h0 : i = 0
  · subst h0; exact ⟨this.1, this.2.1, fun h => absurd h (Nat.lt_irrefl _)⟩
  · rw [zA_take (by omega)]; exact this

theorem marksL_good {zs : List Int} (h : goodE zs = true) : goodM (marksL zs) = true := by
  have ok := marksL_ok h
  have inn := marksL_in h
  have h30 := (goodE_t.1 h).1
  refine goodM_t.2 ⟨marksL_len h, fun i hi => ?_⟩
  have r := ok.rng i hi
  refine ⟨r.1, r.2.1, r.2.2.1, by omega, fun h0 => ⟨ok.ris (i - 1) i (by omega) hi, inn.up (i - 1) i (by omega) hi⟩⟩

end Go.Proofs.Ytgmcllfdhkjafaa
