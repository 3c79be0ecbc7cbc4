/-
  What the marks of a log tell, and the asking by epochs ('matchF'), as numbers.
-/
import Derived.Test.YtgmcllfdhkjafaaMkApp
namespace Go.Proofs.Ytgmcllfdhkjafaa
open Go.RowKit

theorem mA_left {xs ys : List Mk} {i : Nat} (h : i < xs.length) : mA (xs ++ ys) i = mA xs i := by
  unfold mA; rw [List.getD_eq_getElem?_getD, List.getD_eq_getElem?_getD, List.getElem?_append_left h]

theorem mA_last {xs : List Mk} {q : Mk} : mA (xs ++ [q]) xs.length = q := by
  unfold mA; rw [List.getD_eq_getElem?_getD, List.getElem?_append_right (Nat.le_refl _)]; simp

/-- What is known of the marks of the first k entries. -/
structure MkOk (zs : List Int) (k : Nat) (m : List Mk) : Prop where
  rng : ∀ i, i < m.length → 0 ≤ (mA m i).ep ∧ (mA m i).ep ≤ 100 ∧ 0 ≤ (mA m i).st ∧ (mA m i).st < k
  ris : risM m
  lst : 0 < k → 0 < m.length ∧ (mA m (m.length - 1)).ep = zA zs (k - 1)

theorem marksTo_ok {zs : List Int} : ∀ {k : Nat}, okE zs k → MkOk zs k (marksTo zs k)
  | 0, _ => ⟨fun i hi => absurd hi (Nat.not_lt_zero _), fun i j _ hj => absurd hj (Nat.not_lt_zero _), fun h => absurd h (Nat.lt_irrefl _)⟩
  | k + 1, h => by
    have ih := marksTo_ok (zs := zs) (k := k) (fun i hi => h i (by omega))
    have hk := h k (by omega)
    by_cases hc : k = 0 ∨ zA zs (k - 1) ≠ zA zs k
    · rw [marksTo_add hc]
      have hlen : (marksTo zs k ++ [(⟨zA zs k, k⟩ : Mk)]).length = (marksTo zs k).length + 1 := by simp
      refine ⟨fun i hi => ?_, fun i j hij hj => ?_, fun _ => ?_⟩
      · rw [hlen] at hi
        by_cases e : i = (marksTo zs k).length
        · subst e; rw [mA_last]; exact ⟨hk.1, hk.2.1, by simp, by simp; omega⟩
        · rw [mA_left (by omega)]
          have := ih.rng i (by omega)
          omega
      · rw [hlen] at hj
        by_cases e : j = (marksTo zs k).length
        · subst e
          rw [mA_last, mA_left hij]
          have hk0 : 0 < k := by
            have := marksTo_len zs k
            omega
          obtain ⟨l0, l1⟩ := ih.lst hk0
          have h2 := hk.2.2 hk0
          have hne := hc.resolve_left (by omega)
          have : (mA (marksTo zs k) i).ep ≤ zA zs (k - 1) := by
            rw [← l1]
            by_cases e : i = (marksTo zs k).length - 1
            · subst e; exact Int.le_refl _
            · have := ih.ris i ((marksTo zs k).length - 1) (by omega) (by omega); omega
          show (mA (marksTo zs k) i).ep < zA zs k
          omega
        · rw [mA_left (by omega), mA_left (by omega)]
          exact ih.ris i j hij (by omega)
      · refine ⟨by omega, ?_⟩
        rw [hlen, Nat.add_sub_cancel, Nat.add_sub_cancel, mA_last]
    · rw [marksTo_same hc]
      have hk0 : 0 < k := by omega
      have he : zA zs (k - 1) = zA zs k := by
        have : ¬ zA zs (k - 1) ≠ zA zs k := fun h => hc (.inr h)
        omega
      obtain ⟨l0, l1⟩ := ih.lst hk0
      refine ⟨fun i hi => by have := ih.rng i hi; omega, ih.ris, fun _ => ⟨l0, ?_⟩⟩
      rw [l1, Nat.add_sub_cancel, he]

theorem marksL_ok {zs : List Int} (h : goodE zs = true) : MkOk zs zs.length (marksL zs) := marksTo_ok (goodE_t.1 h).2
theorem marksL_len {zs : List Int} (h : goodE zs = true) : (marksL zs).length ≤ 30 := by
  have := marksTo_len zs zs.length
  have := (goodE_t.1 h).1
  unfold marksL; omega

/-- What is told lies at or below what is asked. -/
theorem endL_le {zs : List Int} {m : List Mk} (h : MkOk zs zs.length m) {e ep : Int} (hep : -1 ≤ ep) : -1 ≤ (endL m e ep).1 ∧ (endL m e ep).1 ≤ ep := by
  have hc := cutN_is m ep
  unfold endL endF
  split
  · exact ⟨Int.le_refl _, hep⟩
  · rename_i h0
    have h1 := hc.2.1 (cutN m ep - 1) (by omega)
    have h2 := h.rng (cutN m ep - 1) (by have := hc.1; omega)
    exact ⟨by show -1 ≤ _; omega, h1⟩

theorem endL_end {zs : List Int} {m : List Mk} (h : MkOk zs zs.length m) {ep : Int} : 0 ≤ (endL m zs.length ep).2 ∧ (endL m zs.length ep).2 ≤ zs.length := by
  unfold endL endF nxt
  split
  · exact ⟨Int.le_refl _, by omega⟩
  · simp only
    split
    · rename_i hl
      have := h.rng _ hl
      omega
    · omega

/-- Asked again with what was told, the same is told. -/
theorem endL_again {zs : List Int} {m : List Mk} (h : MkOk zs zs.length m) {e ep : Int} (h0 : 0 ≤ (endL m e ep).1) : endL m e (endL m e ep).1 = endL m e ep := by
  have hc := cutN_is m ep
  have hk : cutN m ep ≠ 0 := fun e0 => by
    unfold endL endF at h0; rw [if_pos e0] at h0; simp at h0
  have e1 : (endL m e ep).1 = (mA m (cutN m ep - 1)).ep := by unfold endL endF; rw [if_neg hk]
  have hcut : IsCut m (endL m e ep).1 (cutN m ep) := by
    rw [e1]
    refine ⟨hc.1, fun i hi => ?_, fun hl => h.ris _ _ (by omega) hl⟩
    by_cases e : i = cutN m ep - 1
    · subst e; exact Int.le_refl _
    · have := h.ris i (cutN m ep - 1) (by omega) (by have := hc.1; omega); omega
  rw [endL_cut hcut]; rfl

theorem endL_first {zs : List Int} (hg : goodE zs = true) (h0 : 0 < zs.length) : endL (marksL zs) zs.length 100 = (zA zs (zs.length - 1), (zs.length : Int)) := by
  have h := marksL_ok hg
  obtain ⟨l0, l1⟩ := h.lst h0
  have hcut : IsCut (marksL zs) 100 (marksL zs).length := ⟨Nat.le_refl _, fun i hi => (h.rng i hi).2.1, fun h => absurd h (Nat.lt_irrefl _)⟩
  rw [endL_cut hcut]
  unfold endF nxt
  rw [if_neg (by omega), if_neg (Nat.lt_irrefl _), l1]

/-- The asking: how much is cut to, and how often was asked. -/
def matchF (lead follow : List Mk) (nl nf : Int) : Nat → Int → Int → Nat → Int × Nat
  | 0, _, _, asked => (0, asked)
  | fuel + 1, ep, own, asked =>
    if ep < 0 then (0, asked)
    else if (endL lead nl ep).1 = ep then (min (endL lead nl ep).2 own, asked + 1)
    else matchF lead follow nl nf fuel (endL follow nf (endL lead nl ep).1).1 (endL follow nf (endL lead nl ep).1).2 (asked + 1)

def matchL (L f : List Int) : Int × Nat := matchF (marksL L) (marksL f) L.length f.length 102 (endL (marksL f) f.length 100).1 (endL (marksL f) f.length 100).2 0

theorem matchF_neg {lead follow : List Mk} {nl nf : Int} {fuel asked : Nat} {ep own : Int} (h : ep < 0) : matchF lead follow nl nf fuel ep own asked = (0, asked) := by
  cases fuel with
  | zero => rfl
  | succ n => unfold matchF; rw [if_pos h]
theorem matchF_hit {lead follow : List Mk} {nl nf : Int} {fuel asked : Nat} {ep own : Int} (hf : 0 < fuel) (h0 : 0 ≤ ep) (h : (endL lead nl ep).1 = ep) : matchF lead follow nl nf fuel ep own asked = (min (endL lead nl ep).2 own, asked + 1) := by
  obtain ⟨n, rfl⟩ : ∃ n, fuel = n + 1 := ⟨fuel - 1, by omega⟩
  unfold matchF; rw [if_neg (by omega), if_pos h]
theorem matchF_go {lead follow : List Mk} {nl nf : Int} {fuel asked : Nat} {ep own : Int} (h0 : 0 ≤ ep) (h : (endL lead nl ep).1 ≠ ep) : matchF lead follow nl nf (fuel + 1) ep own asked = matchF lead follow nl nf fuel (endL follow nf (endL lead nl ep).1).1 (endL follow nf (endL lead nl ep).1).2 (asked + 1) := by
  conv => lhs; unfold matchF
  rw [if_neg (by omega), if_neg h]

theorem matchF_bd {L f : List Int} (hL : goodE L = true) (hf : goodE f = true) : ∀ (fuel : Nat) (ep own : Int) (asked : Nat), 0 ≤ own → own ≤ f.length → 0 ≤ (matchF (marksL L) (marksL f) L.length f.length fuel ep own asked).1 ∧ (matchF (marksL L) (marksL f) L.length f.length fuel ep own asked).1 ≤ L.length ∧ (matchF (marksL L) (marksL f) L.length f.length fuel ep own asked).1 ≤ f.length
  | 0, _, _, _, _, _ => by simp [matchF]
  | fuel + 1, ep, own, asked, h0, h1 => by
    unfold matchF
    split
    · simp
    · split
      · have := endL_end (marksL_ok hL) (ep := ep)
        simp only
        omega
      · have := endL_end (marksL_ok hf) (ep := (endL (marksL L) L.length ep).1)
        exact matchF_bd hL hf fuel _ _ _ this.1 this.2

theorem matchL_bd {L f : List Int} (hL : goodE L = true) (hf : goodE f = true) : 0 ≤ (matchL L f).1 ∧ (matchL L f).1 ≤ L.length ∧ (matchL L f).1 ≤ f.length := by
  have := endL_end (marksL_ok hf) (ep := 100)
  exact matchF_bd hL hf _ _ _ _ this.1 this.2

end Go.Proofs.Ytgmcllfdhkjafaa
