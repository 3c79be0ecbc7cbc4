/-
  Places that are spread, as the program does it, in plain mathematics: which items stay, which rooms are left, who keeps one more; and that it is what the specification tells.
-/
import Derived.Test.YtmpchddfijcjfaaHmB
import Derived.Test.YtmpchddfijcjfaaHmR
namespace Go.Proofs.Ytmpchddfijcjfaa
open Go.RowKit Go.Maps

/-- The item at i stays. -/
def kpB (rs l : List Int) (i : Nat) : Prop := 0 ≤ zA l i ∧ ((cntTo l (zA l i) i : Nat) : Int) < zA rs (zA l i).toNat
instance (rs l : List Int) (i : Nat) : Decidable (kpB rs l i) := inferInstanceAs (Decidable (_ ∧ _))
/-- The items from a up to b were looked at. -/
def kpW (rs l : List Int) (a b : Nat) : List Int := (List.range l.length).map fun i => if (a ≤ i ∧ i < b) ∧ ¬ kpB rs l i then -1 else zA l i
theorem kpW_len (rs l : List Int) (a b : Nat) : (kpW rs l a b).length = l.length := by simp [kpW]
theorem kpW_get {rs l : List Int} {a b i : Nat} (h : i < l.length) : zA (kpW rs l a b) i = if (a ≤ i ∧ i < b) ∧ ¬ kpB rs l i then -1 else zA l i := by simp [zA, kpW, List.getD_eq_getElem?_getD, h]
theorem kpW_none (rs l : List Int) (a : Nat) : kpW rs l a a = l := ext_zA (kpW_len _ _ _ _) fun i hi => by
  rw [kpW_len] at hi
  rw [kpW_get hi, if_neg (by omega)]
theorem kpW_set {rs l : List Int} {k : Nat} (hk : k < l.length) (h : ¬ kpB rs l k) : (kpW rs l 0 k).set k (-1) = kpW rs l 0 (k + 1) := ext_zA (by simp [kpW]) fun i hi => by
  rw [List.length_set, kpW_len] at hi
  rw [kpW_get hi]
  by_cases e : k = i
  · subst e; rw [zA_set_same (by rw [kpW_len]; exact hk), if_pos ⟨by omega, h⟩]
  · rw [zA_set_other e, kpW_get hi]
    by_cases c : (0 ≤ i ∧ i < k) ∧ ¬ kpB rs l i
    · rw [if_pos c, if_pos ⟨by omega, c.2⟩]
    · rw [if_neg c, if_neg (fun d => c ⟨by omega, d.2⟩)]
theorem kpW_keep {rs l : List Int} {k : Nat} (h : kpB rs l k ∨ zA l k = -1) : kpW rs l 0 k = kpW rs l 0 (k + 1) := ext_zA (by simp [kpW]) fun i hi => by
  rw [kpW_len] at hi
  rw [kpW_get hi, kpW_get hi]
  by_cases e : i = k
  · subst e
    rw [if_neg (by omega)]
    rcases h with h | h
    · rw [if_neg (fun d => d.2 h)]
    · split
      · exact h
      · rfl
  · by_cases c : (0 ≤ i ∧ i < k) ∧ ¬ kpB rs l i
    · rw [if_pos c, if_pos ⟨by omega, c.2⟩]
    · rw [if_neg c, if_neg (fun d => c ⟨by omega, d.2⟩)]
theorem cnt_pre {o l : List Int} {h : Int} : ∀ {k : Nat}, (∀ i, i < k → zA o i = zA l i) → cntTo o h k = cntTo l h k
  | 0, _ => rfl
  | k + 1, e => by rw [cntTo, cntTo, cnt_pre (fun i hi => e i (by omega)), e k (by omega)]
theorem cnt_mono {o : List Int} {h : Int} {a : Nat} : ∀ {k : Nat}, a ≤ k → cntTo o h a ≤ cntTo o h k
  | 0, hk => by rw [show a = 0 by omega]; exact Nat.le_refl _
  | k + 1, hk => by
    by_cases e : a = k + 1
    · rw [e]; exact Nat.le_refl _
    · have := cnt_mono (o := o) (h := h) (by omega : a ≤ k)
      rw [cntTo]; omega
/-- From a on no more stay than there is room for. -/
theorem cnt_cap {rs l : List Int} {h a : Nat} (hr : ((cntTo l (h : Int) a : Nat) : Int) ≤ zA rs h) : ∀ {k : Nat}, k ≤ l.length → cntTo (kpW rs l a l.length) (h : Int) k ≤ cntTo l (h : Int) k ∧ (a ≤ k → ((cntTo (kpW rs l a l.length) (h : Int) k : Nat) : Int) ≤ zA rs h)
  | 0, _ => ⟨Nat.le_refl _, fun h0 => by rw [show a = 0 by omega] at hr; exact hr⟩
  | k + 1, hk => by
    obtain ⟨ih1, ih2⟩ := cnt_cap hr (by omega : k ≤ l.length)
    rw [cntTo, cntTo, kpW_get (by omega : k < l.length)]
    by_cases c : (a ≤ k ∧ k < l.length) ∧ ¬ kpB rs l k
    · rw [if_pos c, if_neg (by omega)]
      refine ⟨by omega, fun _ => ?_⟩
      have := ih2 c.1.1; omega
    · rw [if_neg c]
      by_cases e : zA l k = (h : Int)
      · rw [if_pos e]
        refine ⟨by omega, fun h0 => ?_⟩
        by_cases e2 : a = k + 1
        · subst e2
          rw [cntTo, if_pos e] at hr
          have : cntTo (kpW rs l (k + 1) l.length) (h : Int) k = cntTo l (h : Int) k := cnt_pre fun i hi => by rw [kpW_get (by omega), if_neg (by omega)]
          omega
        · have hkp : kpB rs l k := Classical.byContradiction fun d => c ⟨⟨by omega, by omega⟩, d⟩
          have := hkp.2
          rw [e, Int.toNat_natCast] at this
          omega
      · rw [if_neg e]
        refine ⟨by omega, fun h0 => ?_⟩
        by_cases e2 : a = k + 1
        · subst e2
          rw [cntTo, if_neg e] at hr
          have : cntTo (kpW rs l (k + 1) l.length) (h : Int) k = cntTo l (h : Int) k := cnt_pre fun i hi => by rw [kpW_get (by omega), if_neg (by omega)]
          omega
        · have := ih2 (by omega); omega
theorem cut_step {rs l : List Int} {i : Nat} (hi : i < l.length) (hl : ∀ j, j < l.length → -1 ≤ zA l j) : cut1 rs (kpW rs l (i + 1) l.length) i = kpW rs l i l.length := by
  have hz : zA (kpW rs l (i + 1) l.length) i = zA l i := by rw [kpW_get hi, if_neg (by omega)]
  have hsame : ∀ j, j < l.length → j ≠ i → zA (kpW rs l (i + 1) l.length) j = zA (kpW rs l i l.length) j := fun j hj hn => by
    rw [kpW_get hj, kpW_get hj]
    by_cases c : (i ≤ j ∧ j < l.length) ∧ ¬ kpB rs l j
    · rw [if_pos c, if_pos ⟨⟨by omega, by omega⟩, c.2⟩]
    · rw [if_neg c, if_neg (fun d => c ⟨⟨by omega, by omega⟩, d.2⟩)]
  have hpre : cntTo (kpW rs l (i + 1) l.length) (zA l i) i = cntTo l (zA l i) i := cnt_pre fun j hj => by rw [kpW_get (by omega), if_neg (by omega)]
  unfold cut1
  rw [hz]
  by_cases h0 : 0 ≤ zA l i
  · obtain ⟨h, hh⟩ : ∃ h : Nat, zA l i = h := ⟨(zA l i).toNat, by omega⟩
    rw [hh] at hpre hz ⊢
    rw [Int.toNat_natCast]
    have hs1 : cntTo l (h : Int) (i + 1) = cntTo l (h : Int) i + 1 := by rw [cntTo, if_pos hh]
    have ho1 : cntTo (kpW rs l (i + 1) l.length) (h : Int) (i + 1) = cntTo l (h : Int) i + 1 := by rw [cntTo, hz, if_pos rfl, hpre]
    by_cases c : ((cntTo l (h : Int) i : Nat) : Int) < zA rs h
    · have hk : kpB rs l i := ⟨h0, by rw [hh, Int.toNat_natCast]; exact c⟩
      have := (cnt_cap (rs := rs) (l := l) (h := h) (a := i + 1) (by omega) (Nat.le_refl l.length)).2 (by omega)
      rw [if_neg (by unfold cntA; rw [kpW_len]; omega)]
      refine ext_zA (by rw [kpW_len, kpW_len]) fun j hj => ?_
      rw [kpW_len] at hj
      by_cases e : j = i
      · subst e; rw [kpW_get hj, kpW_get hj, if_neg (by omega), if_neg (fun d => d.2 hk)]
      · exact hsame j hj e
    · have hk : ¬ kpB rs l i := fun d => by have := d.2; rw [hh, Int.toNat_natCast] at this; exact c this
      have := cnt_mono (o := kpW rs l (i + 1) l.length) (h := (h : Int)) (by omega : i + 1 ≤ l.length)
      rw [if_pos (by unfold cntA; rw [kpW_len]; omega)]
      refine ext_zA (by rw [List.length_set, kpW_len, kpW_len]) fun j hj => ?_
      rw [List.length_set, kpW_len] at hj
      by_cases e : j = i
      · subst e; rw [zA_set_same (by rw [kpW_len]; exact hj), kpW_get hj, if_pos ⟨⟨by omega, by omega⟩, hk⟩]
      · rw [zA_set_other (fun d => e d.symm)]; exact hsame j hj e
  · rw [if_neg (fun d => h0 d.1)]
    refine ext_zA (by rw [kpW_len, kpW_len]) fun j hj => ?_
    rw [kpW_len] at hj
    by_cases e : j = i
    · subst e
      have := hl j hj
      rw [hz, kpW_get hj]
      split
      · omega
      · rfl
    · exact hsame j hj e
theorem cut_all {rs l : List Int} (hl : ∀ j, j < l.length → -1 ≤ zA l j) : ∀ i, i ≤ l.length → cutTo rs i (kpW rs l i l.length) = kpW rs l 0 l.length
  | 0, _ => rfl
  | i + 1, h => by rw [cutTo, cut_step (by omega) hl]; exact cut_all hl i (by omega)
theorem cut_is {rs l : List Int} (hl : ∀ j, j < l.length → -1 ≤ zA l j) : cutTo rs l.length l = kpW rs l 0 l.length := by
  have := cut_all (rs := rs) hl l.length (Nat.le_refl _)
  rwa [kpW_none] at this

/-- A home that is gone, with no room. -/
theorem gnK_get {l : List Int} {gone : Int} : ∀ {k i : Nat}, i < l.length → zA (gnK l gone k) i = if i < k ∧ 0 ≤ gone ∧ zA l i = gone then -1 else zA l i
  | 0, i, _ => by rw [if_neg (by omega)]; rfl
  | k + 1, i, hi => by
    have ih := @gnK_get l gone k i hi
    rw [gnK]
    by_cases e : k = i
    · subst e
      have ihk := @gnK_get l gone k k hi
      rw [if_neg (by omega)] at ihk
      by_cases c : 0 ≤ zA (gnK l gone k) k ∧ zA (gnK l gone k) k = gone
      · rw [if_pos c, zA_set_same (by rw [gnK_len]; exact hi)]
        rw [ihk] at c
        rw [if_pos ⟨by omega, by omega, c.2⟩]
      · rw [if_neg c, ihk]
        rw [ihk] at c
        rw [if_neg (fun d => c ⟨by omega, d.2.2⟩)]
    · have : zA (if 0 ≤ zA (gnK l gone k) k ∧ zA (gnK l gone k) k = gone then (gnK l gone k).set k (-1) else gnK l gone k) i = zA (gnK l gone k) i := by
        split
        · rw [zA_set_other e]
        · rfl
      rw [this, ih]
      by_cases c : i < k ∧ 0 ≤ gone ∧ zA l i = gone
      · rw [if_pos c, if_pos ⟨by omega, c.2⟩]
      · rw [if_neg c, if_neg (fun d => c ⟨by omega, d.2⟩)]
theorem gnL_get {l : List Int} {gone : Int} {i : Nat} (hi : i < l.length) : zA (gnL l gone) i = if 0 ≤ gone ∧ zA l i = gone then -1 else zA l i := by
  unfold gnL
  rw [gnK_get hi]
  by_cases c : 0 ≤ gone ∧ zA l i = gone
  · rw [if_pos c, if_pos ⟨hi, c⟩]
  · rw [if_neg c, if_neg (fun d => c d.2)]
theorem gnL_cnt {l : List Int} {gone h : Int} (h0 : 0 ≤ h) (hn : h ≠ gone) : ∀ {k : Nat}, k ≤ l.length → cntTo (gnL l gone) h k = cntTo l h k
  | 0, _ => rfl
  | k + 1, hk => by
    rw [cntTo, cntTo, gnL_cnt h0 hn (by omega), gnL_get (by omega)]
    by_cases c : 0 ≤ gone ∧ zA l k = gone
    · rw [if_pos c, if_neg (by omega), if_neg (by omega)]
    · rw [if_neg c]
theorem kp_gone {rs l : List Int} {gone : Int} (hg : 0 ≤ gone → zA rs gone.toNat = 0) : kpW rs (gnL l gone) 0 (gnL l gone).length = kpW rs l 0 l.length := by
  refine ext_zA (by rw [kpW_len, kpW_len, gnL_len]) fun i hi => ?_
  rw [kpW_len, gnL_len] at hi
  rw [kpW_get (by rw [gnL_len]; exact hi), kpW_get hi, gnL_len]
  by_cases c : 0 ≤ gone ∧ zA l i = gone
  · have hnk : ¬ kpB rs l i := fun d => by
      have := d.2
      rw [c.2, hg c.1] at this
      omega
    have hz : zA (gnL l gone) i = -1 := by rw [gnL_get hi, if_pos c]
    have hnk2 : ¬ kpB rs (gnL l gone) i := fun d => by have := d.1; omega
    rw [if_pos ⟨⟨by omega, hi⟩, hnk2⟩, if_pos ⟨⟨by omega, hi⟩, hnk⟩]
  · have hz : zA (gnL l gone) i = zA l i := by rw [gnL_get hi, if_neg c]
    have hiff : kpB rs (gnL l gone) i ↔ kpB rs l i := by
      unfold kpB
      rw [hz]
      constructor
      · intro d
        rw [gnL_cnt d.1 (fun e => c ⟨by omega, e⟩) (by omega)] at d
        exact d
      · intro d
        rw [gnL_cnt d.1 (fun e => c ⟨by omega, e⟩) (by omega)]
        exact d
    rw [hz]
    by_cases d : kpB rs l i
    · rw [if_neg (fun e => e.2 (hiff.2 d)), if_neg (fun e => e.2 d)]
    · rw [if_pos ⟨⟨by omega, hi⟩, fun e => d (hiff.1 e)⟩, if_pos ⟨⟨by omega, hi⟩, d⟩]

/-- The rooms that are left when k items were looked at. -/
def remT (n : Nat) (rs l : List Int) (k : Nat) : List Int := (List.range n).map fun h : Nat => max 0 (zA rs h - ((cntTo l (h : Int) k : Nat) : Int))
theorem remT_len (n : Nat) (rs l : List Int) (k : Nat) : (remT n rs l k).length = n := by simp [remT]
theorem remT_get {n : Nat} {rs l : List Int} {k h : Nat} (hh : h < n) : zA (remT n rs l k) h = max 0 (zA rs h - ((cntTo l (h : Int) k : Nat) : Int)) := by simp [zA, remT, List.getD_eq_getElem?_getD, hh]
theorem remT_take {n : Nat} {rs l : List Int} {k x : Nat} (hz : zA l k = (x : Int)) (hx : x < n) (hp : 0 < zA (remT n rs l k) x) : (remT n rs l k).set x (zA (remT n rs l k) x - 1) = remT n rs l (k + 1) := ext_zA (by simp [remT]) fun h hh => by
  rw [List.length_set, remT_len] at hh
  by_cases e : x = h
  · subst e
    rw [zA_set_same (by rw [remT_len]; exact hx)]
    rw [remT_get hx] at hp
    rw [remT_get hx, remT_get hx, cntTo, if_pos hz]
    omega
  · rw [zA_set_other e, remT_get hh, remT_get hh, cntTo, if_neg (by rw [hz]; omega), Nat.add_zero]
theorem remT_keep {n : Nat} {rs l : List Int} {k : Nat} (h : ∀ x : Nat, zA l k = (x : Int) → x < n → zA (remT n rs l k) x = 0) : remT n rs l k = remT n rs l (k + 1) := ext_zA (by simp [remT]) fun j hj => by
  rw [remT_len] at hj
  rw [remT_get hj, remT_get hj, cntTo]
  by_cases e : zA l k = (j : Int)
  · have := h j e hj
    rw [remT_get hj] at this
    rw [if_pos e]; omega
  · rw [if_neg e, Nat.add_zero]
theorem kp_iff {n : Nat} {rs l : List Int} {k x : Nat} (hz : zA l k = (x : Int)) (hx : x < n) : kpB rs l k ↔ 0 < zA (remT n rs l k) x := by
  unfold kpB
  rw [hz, remT_get hx, Int.toNat_natCast]
  omega

/-- What a map of rooms holds. -/
def rmF (rem : List Int) (z : Int) : Option Int := if 0 ≤ z ∧ z < (rem.length : Int) ∧ 0 < zA rem z.toNat then some (zA rem z.toNat) else none
theorem rmF_some {rem : List Int} {x : Nat} (h : x < rem.length) (hp : 0 < zA rem x) : rmF rem (x : Int) = some (zA rem x) := by
  unfold rmF; rw [if_pos ⟨by omega, by omega, by simpa using hp⟩, Int.toNat_natCast]
theorem rmF_dec {rem : List Int} {x : Nat} (h : x < rem.length) (hp : 1 < zA rem x) (z : Int) : upM (rmF rem) (x : Int) (some (zA rem x - 1)) z = rmF (rem.set x (zA rem x - 1)) z := by
  unfold upM
  by_cases e : z = (x : Int)
  · subst e
    rw [if_pos rfl, rmF_some (by simpa using h) (by rw [zA_set_same h]; omega), zA_set_same h]
  · rw [if_neg e]
    unfold rmF
    rw [List.length_set]
    by_cases c : 0 ≤ z ∧ z < (rem.length : Int)
    · rw [zA_set_other (by omega : x ≠ z.toNat)]
    · rw [if_neg (fun d => c ⟨d.1, d.2.1⟩), if_neg (fun d => c ⟨d.1, d.2.1⟩)]
theorem rmF_del {rem : List Int} {x : Nat} (h : x < rem.length) (hp : zA rem x = 1) (v z : Int) : upM (upM (rmF rem) (x : Int) (some v)) (x : Int) none z = rmF (rem.set x (zA rem x - 1)) z := by
  unfold upM
  by_cases e : z = (x : Int)
  · subst e
    rw [if_pos rfl]
    unfold rmF
    rw [if_neg (fun d => by rw [Int.toNat_natCast, zA_set_same h] at d; omega)]
  · rw [if_neg e, if_neg e]
    unfold rmF
    rw [List.length_set]
    by_cases c : 0 ≤ z ∧ z < (rem.length : Int)
    · rw [zA_set_other (by omega : x ≠ z.toNat)]
    · rw [if_neg (fun d => c ⟨d.1, d.2.1⟩), if_neg (fun d => c ⟨d.1, d.2.1⟩)]

/-- The first that has room. -/
theorem filter_head {p : Int → Bool} {N s : Nat} (hs : s < N) (h1 : p (s : Int) = true) (h2 : ∀ j : Nat, j < s → p (j : Int) = false) : ∃ t, ((List.range N).map fun h : Nat => (h : Int)).filter p = (s : Int) :: t := by
  have e : List.range N = List.range s ++ s :: (List.range (N - s - 1)).map (fun i => s + 1 + i) := by
    apply List.ext_getElem? fun i => ?_
    rcases Nat.lt_trichotomy i s with h | h | h
    · rw [List.getElem?_append_left (by simpa using h), List.getElem?_range (by omega), List.getElem?_range h]
    · subst h; rw [List.getElem?_append_right (by simp), List.getElem?_range hs]; simp
    · by_cases hN : i < N
      · rw [List.getElem?_append_right (by simp; omega), List.getElem?_range hN, List.length_range, show i - s = (i - s - 1) + 1 by omega, List.getElem?_cons_succ, List.getElem?_map, List.getElem?_range (by omega)]
        simp; omega
      · rw [List.getElem?_eq_none (by simp; omega), List.getElem?_eq_none (by simp; omega)]
  rw [e, List.map_append, List.filter_append, List.map_cons, List.filter_cons_of_pos h1]
  have hn : ((List.range s).map fun h : Nat => (h : Int)).filter p = [] := List.filter_eq_nil_iff.2 fun z hz => by
    obtain ⟨j, hj, rfl⟩ := List.mem_map.1 hz
    rw [h2 j (by simpa using hj)]; simp
  rw [hn, List.nil_append]
  exact ⟨_, rfl⟩

/-- The rooms less what is there. -/
def remF (n : Nat) (rs o : List Int) : List Int := (List.range n).map fun h : Nat => zA rs h - cntA o h
theorem remF_len (n : Nat) (rs o : List Int) : (remF n rs o).length = n := by simp [remF]
theorem remF_get {n : Nat} {rs o : List Int} {h : Nat} (hh : h < n) : zA (remF n rs o) h = zA rs h - cntA o h := by simp [zA, remF, List.getD_eq_getElem?_getD, hh]
theorem cnt_kp {rs l : List Int} {h : Nat} (hr : 0 ≤ zA rs h) : ∀ {k : Nat}, k ≤ l.length → ((cntTo (kpW rs l 0 l.length) (h : Int) k : Nat) : Int) = min (zA rs h) ((cntTo l (h : Int) k : Nat) : Int)
  | 0, _ => by simp [cntTo]; omega
  | k + 1, hk => by
    have ih := cnt_kp hr (by omega : k ≤ l.length)
    rw [cntTo, cntTo, kpW_get (by omega : k < l.length)]
    by_cases c : (0 ≤ k ∧ k < l.length) ∧ ¬ kpB rs l k
    · rw [if_pos c, if_neg (by omega)]
      by_cases e : zA l k = (h : Int)
      · have : ¬ ((cntTo l (h : Int) k : Nat) : Int) < zA rs h := fun d => c.2 ⟨by omega, by rw [e, Int.toNat_natCast]; exact d⟩
        rw [if_pos e]; omega
      · rw [if_neg e]; omega
    · rw [if_neg c]
      have hkp : kpB rs l k := Classical.byContradiction fun d => c ⟨⟨by omega, by omega⟩, d⟩
      by_cases e : zA l k = (h : Int)
      · have := hkp.2
        rw [e, Int.toNat_natCast] at this
        rw [if_pos e]; omega
      · rw [if_neg e]; omega
theorem rem_same {n : Nat} {rs l : List Int} (hr : ∀ h, h < n → 0 ≤ zA rs h) : remT n rs l l.length = remF n rs (kpW rs l 0 l.length) := ext_zA (by simp [remT, remF]) fun h hh => by
  rw [remT_len] at hh
  rw [remT_get hh, remF_get hh]
  unfold cntA
  rw [kpW_len, cnt_kp (hr h hh) (Nat.le_refl _)]
  omega
theorem remF_step {n : Nat} {rs o : List Int} {i s : Nat} (hi : i < o.length) (hz : zA o i < 0) (hs : s < n) : (remF n rs o).set s (zA (remF n rs o) s - 1) = remF n rs (o.set i (s : Int)) := ext_zA (by simp [remF]) fun h hh => by
  rw [List.length_set, remF_len] at hh
  have hc := cntA_set (v := (s : Int)) hi h
  rw [if_neg (by omega : ¬ (zA o i = (h : Int)))] at hc
  by_cases e : s = h
  · subst e
    rw [if_pos rfl] at hc
    rw [zA_set_same (by rw [remF_len]; exact hs), remF_get hs, remF_get hs]; omega
  · rw [if_neg (by omega)] at hc
    rw [zA_set_other e, remF_get hh, remF_get hh]; omega

end Go.Proofs.Ytmpchddfijcjfaa
