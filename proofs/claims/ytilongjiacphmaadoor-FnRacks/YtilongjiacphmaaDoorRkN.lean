/-
  Which home comes next, as the program looks for it: forth from the home; and that it is what the specification tells.
-/
import Derived.Test.YtilongjiacphmaaDoorRkI2
namespace Go.Proofs.YtilongjiacphmaaDoor
open Go.RowKit

theorem and_bit : ∀ x : Nat, x < 128 → ∀ r : Nat, r < 7 → (x &&& 2 ^ r != 0) = x.testBit r := by decide +kernel
theorem mi_has : ∀ x : Nat, x < 128 → ∀ k : Nat, k < 7 → (mi x).contains ((k : Nat) : Int) = x.testBit k := by decide +kernel
/-- The home at which round i looks. -/
def atR (n h i : Nat) : Nat := (h + 1 + i) % n
/-- The first of the first i homes of which f holds, -1 for none. -/
def nxP (f : Nat → Bool) (n h : Nat) : Nat → Int
  | 0 => -1
  | i + 1 => if nxP f n h i = -1 ∧ f (atR n h i) = true then (atR n h i : Int) else nxP f n h i
theorem nxP_no {f : Nat → Bool} {n h : Nat} : ∀ {i : Nat}, (∀ j, j < i → f (atR n h j) = false) → nxP f n h i = -1
  | 0, _ => rfl
  | i + 1, hf => by
    rw [nxP, if_neg (fun c => by rw [hf i (by omega)] at c; cases c.2)]
    exact nxP_no fun j hj => hf j (by omega)
theorem nxP_at {f : Nat → Bool} {n h k : Nat} (hk : f (atR n h k) = true) (hf : ∀ j, j < k → f (atR n h j) = false) : ∀ {i : Nat}, k < i → nxP f n h i = (atR n h k : Int)
  | 0, hi => by omega
  | i + 1, hi => by
    rw [nxP]
    by_cases e : i = k
    · subst e; rw [if_pos ⟨nxP_no hf, hk⟩]
    · have ih := nxP_at hk hf (by omega : k < i)
      rw [ih, if_neg (fun c => by have := c.1; omega)]
theorem bk_first {f : Nat → Bool} {n h k : Nat} {z : Int} (hk : f ((h + k) % n) = true) (hf : ∀ j, 1 ≤ j → j < k → f ((h + j) % n) = false) (hkn : k ≤ n - 1) : ∀ j, j ≤ n - 1 → n - j ≤ k → 1 ≤ n - j → bkTo f n h z j = (((h + k) % n : Nat) : Int)
  | 0, _, h2, _ => by omega
  | j + 1, h1, h2, h3 => by
    rw [bkTo]
    by_cases e : k = n - 1 - j
    · rw [← e, if_pos hk]
    · rw [if_neg (by rw [hf (n - 1 - j) (by omega) (by omega)]; exact Bool.false_ne_true)]
      exact bk_first hk hf hkn j (by omega) (by omega) (by omega)
theorem atR_k (n h i : Nat) : atR n h i = (h + (i + 1)) % n := by unfold atR; congr 1; omega
theorem atR_last {n h : Nat} (hh : h < n) : atR n h (n - 1) = h := by unfold atR; rw [show h + 1 + (n - 1) = h + n by omega, Nat.add_mod_right, Nat.mod_eq_of_lt hh]
/-- Each home is looked at. -/
theorem atR_all {n h x : Nat} (hh : h < n) (hx : x < n) : ∃ i, i < n ∧ atR n h i = x := by
  by_cases e : x = h
  · exact ⟨n - 1, by omega, by rw [e]; exact atR_last hh⟩
  · obtain ⟨k, k1, k2, k3⟩ := back_at hh hx e
    exact ⟨k - 1, by omega, by rw [atR_k, show k - 1 + 1 = k by omega]; exact k3⟩
/-- A home of a new rack, the first one. -/
theorem nxt_fresh {rk l : List Int} {h i : Nat} (hh : h < rk.length) (hm : (h : Int) ∈ l) (hi : i < rk.length) (hk : fA rk l (atR rk.length h i) = true) (hf : ∀ j, j < i → fA rk l (atR rk.length h j) = false) : nxtR rk h l = (atR rk.length h i : Int) := by
  have hfre : freB rk l = true := by
    refine List.any_eq_true.2 ⟨zA rk (atR rk.length h i), List.mem_of_getElem? (zA_get (Nat.mod_lt _ (by omega))), hk⟩
  have hne : i ≠ rk.length - 1 := fun e => by
    rw [e, atR_last hh] at hk
    unfold fA at hk
    rw [hasR_in hm] at hk
    cases hk
  unfold nxtR nxtA
  rw [if_pos hfre, atR_k]
  refine bk_first (k := i + 1) (by rw [← atR_k]; exact hk) (fun j j1 j2 => ?_) (by omega) _ (Nat.le_refl _) (by omega) (by omega)
  have := hf (j - 1) (by omega)
  rwa [atR_k, show j - 1 + 1 = j by omega] at this
/-- No home has a new rack: the first that is not there. -/
theorem nxt_old {rk l : List Int} {h : Nat} (hh : h < rk.length) (hm : (h : Int) ∈ l) (h1 : l.length ≤ 2) (h2 : l.length < rk.length) (hf : ∀ j, j < rk.length → fA rk l (atR rk.length h j) = false) : nxtR rk h l = nxP (fB l) rk.length h rk.length := by
  have hfre : freB rk l = false := by
    rw [Bool.eq_false_iff]
    intro c
    obtain ⟨r, hr, hq⟩ := List.any_eq_true.1 c
    obtain ⟨x, hx⟩ := List.getElem?_of_mem hr
    have hxl := (List.getElem?_eq_some_iff.1 hx).1
    rw [zA_get hxl] at hx
    obtain ⟨i, i1, i2⟩ := atR_all hh hxl
    have := hf i i1
    unfold fA at this
    rw [i2, Option.some.inj hx, hq] at this
    cases this
  obtain ⟨x, hx, hxo⟩ := out_two h1 h2
  obtain ⟨i, i1, i2⟩ := atR_all hh hx
  have hex : ∃ k, k < rk.length ∧ fB l (atR rk.length h k) = true ∧ ∀ j, j < k → fB l (atR rk.length h j) = false := by
    have hi : fB l (atR rk.length h i) = true := by rw [i2]; unfold fB; simpa using hxo
    clear i2
    induction i using Nat.strongRecOn with
    | _ i ih =>
      by_cases c : ∃ j, j < i ∧ fB l (atR rk.length h j) = true
      · obtain ⟨j, j1, j2⟩ := c
        exact ih j j1 (by omega) j2
      · exact ⟨i, i1, hi, fun j hj => by
          rw [Bool.eq_false_iff]
          exact fun d => c ⟨j, hj, d⟩⟩
  obtain ⟨k, k1, k2, k3⟩ := hex
  have hne : k ≠ rk.length - 1 := fun e => by
    rw [e, atR_last hh] at k2
    unfold fB at k2
    rw [List.contains_iff_mem.2 hm] at k2
    cases k2
  rw [nxP_at k2 k3 k1]
  unfold nxtR nxtB
  rw [if_neg (by rw [hfre]; exact Bool.false_ne_true), atR_k]
  refine bk_first (k := k + 1) (by rw [← atR_k]; exact k2) (fun j j1 j2 => ?_) (by omega) _ (Nat.le_refl _) (by omega) (by omega)
  have := k3 (j - 1) (by omega)
  rwa [atR_k, show j - 1 + 1 = j by omega] at this
/-- What the sets of bits tell. -/
theorem hasR_bit {rk l : List Int} (h3 : Rk3 rk) {r : Nat} : (rkTo rk l l.length).testBit r = hasR rk l (r : Int) := by
  rw [Bool.eq_iff_iff, rkTo_bit]
  unfold hasR
  rw [List.any_eq_true]
  constructor
  · rintro ⟨j, j1, j2⟩
    refine ⟨zA l j, List.mem_of_getElem? (zA_get j1), ?_⟩
    rw [beq_iff_eq, ← rk_int h3, j2]
  · rintro ⟨z, hz, e⟩
    obtain ⟨j, hj⟩ := List.getElem?_of_mem hz
    have hl := (List.getElem?_eq_some_iff.1 hj).1
    rw [zA_get hl] at hj
    rw [beq_iff_eq] at e
    exact ⟨j, hl, by rw [Option.some.inj hj, e, Int.toNat_natCast]⟩

end Go.Proofs.YtilongjiacphmaaDoor
