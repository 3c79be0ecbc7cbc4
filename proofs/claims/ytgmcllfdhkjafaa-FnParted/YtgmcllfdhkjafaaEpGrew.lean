/-
  Logs that grew from one: asking by epochs one comes to where they part; and how often is asked.
-/
import Derived.Test.YtgmcllfdhkjafaaEpMath2
import Derived.Test.YtgmcllfdhkjafaaFolG
namespace Go.Proofs.Ytgmcllfdhkjafaa
open Go.RowKit

def GrewAt (a b : List Int) (i m : Nat) : Prop := (i = 0 ∨ zA a (i - 1) ≠ zA a i) → ∀ k, k < m → zA b k = zA a i → (k = 0 ∨ zA b (k - 1) ≠ zA b k) → k = i ∧ a.take i = b.take k
def Grew (a b : List Int) : Prop := ∀ i, i < a.length → GrewAt a b i b.length

/-- The first place of an epoch. -/
theorem first_at {zs : List Int} {e : Int} : ∀ {c : Nat}, zA zs c = e → ∃ s, s ≤ c ∧ zA zs s = e ∧ (s = 0 ∨ zA zs (s - 1) ≠ zA zs s)
  | 0, h => ⟨0, Nat.le_refl _, h, .inl rfl⟩
  | c + 1, h => by
    by_cases hc : zA zs c = e
    · obtain ⟨s, h1, h2, h3⟩ := first_at hc
      exact ⟨s, by omega, h2, h3⟩
    · exact ⟨c + 1, Nat.le_refl _, h, .inr (by rw [Nat.add_sub_cancel, h]; exact hc)⟩

theorem take_ext {a b : List Int} {n : Nat} (h1 : n ≤ a.length) (h2 : n ≤ b.length) (h : ∀ i, i < n → zA a i = zA b i) : a.take n = b.take n := by
  apply List.ext_getElem?
  intro i
  by_cases hi : i < n
  · rw [List.getElem?_take_of_lt hi, List.getElem?_take_of_lt hi, zA_get (by omega), zA_get (by omega), h i hi]
  · rw [List.getElem?_eq_none (by rw [List.length_take]; omega), List.getElem?_eq_none (by rw [List.length_take]; omega)]

theorem take_at {a b : List Int} {n i : Nat} (h : a.take n = b.take n) (hi : i < n) : zA a i = zA b i := by
  rw [← zA_take (zs := a) hi, h, zA_take hi]

theorem comm_is : ∀ (a b : List Int), IsPart a b (comm a b)
  | [], b => ⟨by simp [comm], by simp [comm], by simp [comm], fun h => by simp at h⟩
  | x :: a, [] => ⟨by simp [comm], by simp [comm], by simp [comm], fun _ h => by simp at h⟩
  | x :: a, y :: b => by
    have ih := comm_is a b
    by_cases e : x = y
    · subst e
      have hc : comm (x :: a) (x :: b) = comm a b + 1 := by simp [comm]
      rw [hc]
      refine ⟨by simpa using ih.1, by simpa using ih.2.1, by simp [ih.2.2.1], fun h1 h2 => ?_⟩
      exact ih.2.2.2 (by simpa using h1) (by simpa using h2)
    · have hc : comm (x :: a) (y :: b) = 0 := by simp [comm, e]
      rw [hc]
      exact ⟨Nat.zero_le _, Nat.zero_le _, rfl, fun _ _ => e⟩

section
variable {L f : List Int}

/-- No epoch of the follower's above this is the leader's. -/
def NoneAbove (L f : List Int) (ep : Int) : Prop := ∀ k, k < f.length → ep < zA f k → ∀ i, i < L.length → zA L i ≠ zA f k

theorem match_hit (hL : goodE L = true) (hF : goodE f = true) (G : Grew L f) {ep : Int} (hN : NoneAbove L f ep) {c d : Nat} (hc : IsCnt L ep c) (hd : IsCnt f ep d) (c0 : 0 < c) (d0 : 0 < d) (ec : zA L (c - 1) = ep) (ed : zA f (d - 1) = ep) : IsPart L f (min c d) := by
  have sL := okE_sorted (goodE_t.1 hL).2
  have sF := okE_sorted (goodE_t.1 hF).2
  obtain ⟨s, s1, s2, s3⟩ := first_at ec
  obtain ⟨t, t1, t2, t3⟩ := first_at ed
  have hc1 := hc.1
  have hd1 := hd.1
  obtain ⟨rfl, hT⟩ := G s (by omega) s3 t (by omega) (by rw [t2, s2]) t3
  have hpre : ∀ i, i < min c d → zA L i = zA f i := fun i hi => by
    by_cases h : i < t
    · exact take_at hT h
    · have a1 := sL t i (by omega) (by omega)
      have a2 := sL i (c - 1) (by omega) (by omega)
      have b1 := sF t i (by omega) (by omega)
      have b2 := sF i (d - 1) (by omega) (by omega)
      omega
  refine ⟨by omega, by omega, take_ext (by omega) (by omega) hpre, fun h1 h2 => ?_⟩
  by_cases hcd : c < d
  · rw [show min c d = c by omega] at h1 h2 ⊢
    have e1 := hc.2.2 h1
    have e2 := hd.2.1 c hcd
    omega
  · by_cases hdc : d < c
    · rw [show min c d = d by omega] at h1 h2 ⊢
      have e1 := hd.2.2 h2
      have e2 := hc.2.1 d hdc
      omega
    · obtain rfl : c = d := by omega
      rw [show min c c = c by omega] at h1 h2 ⊢
      exact hN c h2 (hd.2.2 h2) c h1

theorem cnt_uniq {zs : List Int} {ep : Int} {c d : Nat} (h1 : IsCnt zs ep c) (h2 : IsCnt zs ep d) : c = d := by
  rcases Nat.lt_trichotomy c d with h | h | h
  · have := h2.2.1 c h; have := h1.2.2 (by have := h2.1; omega); omega
  · exact h
  · have := h1.2.1 d h; have := h2.2.2 (by have := h1.1; omega); omega

theorem matchF_comm (hL : goodE L = true) (hF : goodE f = true) (G : Grew L f) : ∀ (fuel : Nat) (ep own : Int) (asked : Nat), ep + 2 ≤ fuel → -1 ≤ ep → NoneAbove L f ep → (0 ≤ ep → endL (marksL f) f.length ep = (ep, own)) →
    (matchF (marksL L) (marksL f) L.length f.length fuel ep own asked).1 = (comm L f : Int)
  | 0, ep, own, asked, h1, h2, _, _ => by omega
  | fuel + 1, ep, own, asked, h1, h2, hN, hown => by
    by_cases hneg : ep < 0
    · rw [matchF_neg hneg]
      have : comm L f = 0 := comm_uniq ⟨Nat.zero_le _, Nat.zero_le _, rfl, fun g1 g2 => hN 0 g2 (by have := ((goodE_t.1 hF).2 0 g2).1; omega) 0 g1⟩
      rw [this]; rfl
    · obtain ⟨c, hc, ec⟩ := endL_cnt hL ep
      obtain ⟨d, hd, ed⟩ := endL_cnt hF ep
      have ho := hown (by omega)
      rw [ed] at ho
      simp only [Prod.mk.injEq] at ho
      obtain ⟨o1, o2⟩ := ho
      have d0 : 0 < d := by
        rcases Nat.eq_zero_or_pos d with h | h
        · subst h; simp at o1; omega
        · exact h
      rw [if_neg (by omega)] at o1
      by_cases hit : (endL (marksL L) L.length ep).1 = ep
      · rw [matchF_hit (by omega) (by omega) hit]
        have e1 := hit
        rw [ec] at e1
        simp only at e1
        have c0 : 0 < c := by
          rcases Nat.eq_zero_or_pos c with h | h
          · subst h; simp at e1; omega
          · exact h
        rw [if_neg (by omega)] at e1
        rw [comm_uniq (match_hit hL hF G hN hc hd c0 d0 e1 o1), ec, ← o2]
        simp only
        omega
      · rw [matchF_go (by omega) hit]
        have hle := endL_le (marksL_ok hL) (e := L.length) (ep := ep) h2
        obtain ⟨t, ht⟩ : ∃ t, (endL (marksL L) L.length ep).1 = t := ⟨_, rfl⟩
        rw [ht] at hle hit ⊢
        have hle2 := endL_le (marksL_ok hF) (e := f.length) (ep := t) hle.1
        obtain ⟨d', hd', ed'⟩ := endL_cnt hF t
        refine matchF_comm hL hF G fuel _ _ _ (by omega) hle2.1 (fun k hk hgt i hi e => ?_) (fun h0 => by rw [endL_again (marksL_ok hF) h0])
        by_cases hk1 : ep < zA f k
        · exact hN k hk hk1 i hi e
        · have sF := okE_sorted (goodE_t.1 hF).2
          have sL := okE_sorted (goodE_t.1 hL).2
          by_cases hk2 : zA f k ≤ t
          · have hkd : k < d' := by
              rcases Nat.lt_or_ge k d' with h | h
              · exact h
              · have := sF d' k h hk; have := hd'.2.2 (by omega); omega
            rw [ed'] at hgt
            simp only at hgt
            rw [if_neg (by omega)] at hgt
            have := sF k (d' - 1) (by omega) (by have := hd'.1; omega)
            omega
          · have hic : i < c := by
              rcases Nat.lt_or_ge i c with h | h
              · exact h
              · have := sL c i h hi; have := hc.2.2 (by omega); omega
            rw [ec] at ht
            simp only at ht
            rw [if_neg (by omega)] at ht
            have := sL i (c - 1) (by omega) (by have := hc.1; omega)
            omega

theorem match_grew (hL : goodE L = true) (hF : goodE f = true) (G : Grew L f) : (matchL L f).1 = (comm L f : Int) := by
  have hle := endL_le (marksL_ok hF) (e := f.length) (ep := 100) (by decide)
  refine matchF_comm hL hF G _ _ _ _ (by omega) hle.1 (fun k hk hgt => ?_) (fun h0 => by rw [endL_again (marksL_ok hF) h0])
  exfalso
  have h0 : 0 < f.length := by omega
  rw [endL_first hF h0] at hgt
  have := okE_sorted (goodE_t.1 hF).2 k (f.length - 1) (by omega) (by omega)
  simp only at hgt
  omega

theorem matchF_asked (hL : goodE L = true) (hF : goodE f = true) : ∀ (fuel : Nat) (ep own : Int) (asked d : Nat), -1 ≤ ep → IsCnt f ep d → (0 ≤ ep → (endL (marksL f) f.length ep).1 = ep) →
    (matchF (marksL L) (marksL f) L.length f.length fuel ep own asked).2 ≤ asked + d
  | 0, _, _, _, _, _, _, _ => by unfold matchF; simp
  | fuel + 1, ep, own, asked, d, h2, hd, hown => by
    by_cases hneg : ep < 0
    · rw [matchF_neg hneg]; simp
    · obtain ⟨d2, hd2, ed⟩ := endL_cnt hF ep
      obtain rfl := cnt_uniq hd hd2
      have ho := hown (by omega)
      rw [ed] at ho
      simp only at ho
      have d0 : 0 < d := by
        rcases Nat.eq_zero_or_pos d with h | h
        · subst h; simp at ho; omega
        · exact h
      rw [if_neg (by omega)] at ho
      by_cases hit : (endL (marksL L) L.length ep).1 = ep
      · rw [matchF_hit (by omega) (by omega) hit]; simp only; omega
      · rw [matchF_go (by omega) hit]
        have hle := endL_le (marksL_ok hL) (e := L.length) (ep := ep) h2
        obtain ⟨t, ht⟩ : ∃ t, (endL (marksL L) L.length ep).1 = t := ⟨_, rfl⟩
        rw [ht] at hle hit ⊢
        have hle2 := endL_le (marksL_ok hF) (e := f.length) (ep := t) hle.1
        obtain ⟨d', hd', ed'⟩ := endL_cnt hF (endL (marksL f) f.length t).1
        have ih := matchF_asked hL hF fuel (endL (marksL f) f.length t).1 (endL (marksL f) f.length t).2 (asked + 1) d' hle2.1 hd' (fun h0 => by rw [endL_again (marksL_ok hF) h0])
        have hlt : d' < d := by
          rcases Nat.lt_or_ge d' d with h | h
          · exact h
          · have := hd'.2.1 (d - 1) (by omega); omega
        omega

theorem match_asked (hL : goodE L = true) (hF : goodE f = true) : (matchL L f).2 ≤ f.length := by
  have hle := endL_le (marksL_ok hF) (e := f.length) (ep := 100) (by decide)
  obtain ⟨d, hd, -⟩ := endL_cnt hF (endL (marksL f) f.length 100).1
  have := matchF_asked hL hF 102 (endL (marksL f) f.length 100).1 (endL (marksL f) f.length 100).2 0 d hle.1 hd (fun h0 => by rw [endL_again (marksL_ok hF) h0])
  have := hd.1
  unfold matchL
  omega

theorem fol_grew (hL : goodE L = true) (hF : goodE f = true) (G : Grew L f) : folL L f = L := by
  rw [folL_yes hL hF, match_grew hL hF G, Int.toNat_natCast]
  have hp : IsPart L f (comm L f) := comm_is L f
  rw [← hp.2.2.1, List.take_append_drop]
end

end Go.Proofs.Ytgmcllfdhkjafaa
