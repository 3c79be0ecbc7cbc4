/-
  Orders of calls, in mathematics: an order that is legal and respects time is found, or a lesser one; where an order does not respect time some pair of calls does not overlap.
-/
import Derived.Test.YtmbfdonefpegeaaDoorHiF2J
import Derived.Test.YtmbfdonefpegeaaDoorHiN
namespace Go.Proofs.YtmbfdonefpegeaaDoor
open Go.RowKit

theorem findL_pre {l : List Cl} {cl : Bool} : ∀ (n : Nat) (ord : List Int), findL l cl n ord ≠ [] → ∀ i, i < ord.length → zA (findL l cl n ord) i = zA ord i
  | 0, ord, h, i, hi => by
    rw [findL] at h ⊢
    split at h
    · rename_i h1
      rw [if_pos h1]
      split at h
      · rename_i h2; rw [if_pos h2]
      · exact absurd rfl h
    · exact absurd rfl h
  | n + 1, ord, h, i, hi => by
    by_cases hb : legB l ord = true
    · by_cases hl : ord.length = l.length
      · rw [findL_end hb hl]
      · rw [findL_go hb hl] at h ⊢
        obtain ⟨k, hk⟩ := fst_is (g := nxtL l cl n ord) l.length h
        rw [hk.1] at h ⊢
        by_cases hf : freeTo l cl ord k l.length = true
        · rw [nxtL_t hf] at h ⊢
          rw [findL_pre n _ h i (by simp; omega), zA_app_lt hi]
        · rw [nxtL_f (by cases g : freeTo l cl ord k l.length; rfl; exact absurd g hf)] at h
          exact absurd rfl h
    · rw [findL_bad (by cases g : legB l ord; rfl; exact absurd g hb)] at h
      exact absurd rfl h
where
  fst_is {g : Nat → List Int} : ∀ (n : Nat), fstTo g n ≠ [] → ∃ k, fstTo g n = g k ∧ k < n
    | 0, h => absurd rfl h
    | n + 1, h => by
      rw [fstTo] at h ⊢
      split at h
      · rename_i h1; rw [if_pos h1]; exact ⟨n, rfl, by omega⟩
      · rename_i h1; rw [if_neg h1]
        obtain ⟨k, h2, h3⟩ := fst_is n h
        exact ⟨k, h2, by omega⟩

theorem lenLe : ∀ (n : Nat) (L : List Int), L.Nodup → (∀ x ∈ L, 0 ≤ x ∧ x < (n : Int)) → L.length ≤ n
  | 0, L, _, h => by
    cases L with
    | nil => exact Nat.le_refl _
    | cons x L => have := h x (by simp); omega
  | n + 1, L, hn, h => by
    by_cases hm : (n : Int) ∈ L
    · have h1 := lenLe n (L.erase (n : Int)) (hn.erase _) (fun x hx => by
        have := (hn.mem_erase_iff).1 hx
        have h2 := h x this.2
        have h3 : x ≠ (n : Int) := this.1
        omega)
      rw [List.length_erase_of_mem hm] at h1
      omega
    · have := lenLe n L hn (fun x hx => by
        have h2 := h x hx
        have h3 : x ≠ (n : Int) := fun e => hm (e ▸ hx)
        omega)
      omega
theorem ord_nodup {n : Nat} {zs : List Int} (h : odTo n zs zs.length) : zs.Nodup := by
  rw [List.Nodup, List.pairwise_iff_getElem]
  intro i j hi hj hij e
  have h2 := (h j hj).2
  have ez : zA zs j = zs[j] := by have := zA_get hj; rw [List.getElem?_eq_getElem hj] at this; exact (Option.some.inj this).symm
  have hm : zA zs j ∈ zs.take j := by
    rw [List.mem_take_iff_getElem]
    exact ⟨i, by omega, by rw [ez]; exact e⟩
  rw [List.contains_iff_mem.2 hm] at h2
  cases h2
theorem ord_all {n : Nat} {zs : List Int} (h : odTo n zs zs.length) (hl : zs.length = n) : (∀ t, t < n → ∃ j, j < zs.length ∧ zA zs j = (t : Int)) ∧ ∀ i j, i < j → j < zs.length → zA zs i = zA zs j → False := by
  have hnd := ord_nodup h
  have hel : ∀ {i : Nat} (hi : i < zs.length), zA zs i = zs[i] := fun {i} hi => by have := zA_get hi; rw [List.getElem?_eq_getElem hi] at this; exact (Option.some.inj this).symm
  have hr : ∀ x ∈ zs, 0 ≤ x ∧ x < (n : Int) := fun x hx => by
    obtain ⟨i, hi⟩ := List.getElem?_of_mem hx
    have hlt := (List.getElem?_eq_some_iff.1 hi).1
    have := (h i hlt).1
    rw [zA_get hlt] at hi
    rw [Option.some.inj hi] at this
    exact this
  refine ⟨fun t ht => ?_, fun i j hij hj e => ?_⟩
  · by_cases hm : (t : Int) ∈ zs
    · obtain ⟨j, hj⟩ := List.getElem?_of_mem hm
      have hlt := (List.getElem?_eq_some_iff.1 hj).1
      rw [zA_get hlt] at hj
      exact ⟨j, hlt, Option.some.inj hj⟩
    · have := lenLe n ((t : Int) :: zs) (List.nodup_cons.2 ⟨hm, hnd⟩) (fun x hx => by
        rcases List.mem_cons.1 hx with rfl | hx
        · omega
        · exact hr x hx)
      simp at this
      omega
  · rw [hel (by omega), hel hj] at e
    rw [List.Nodup, List.pairwise_iff_getElem] at hnd
    exact hnd i j (by omega) hj hij e

/-- The first place at which two lists part has the lesser number in the first one. -/
def lexLe (m : Nat) (o zs : List Int) : Prop := ∀ i, i < m → (∀ j, j < i → zA o j = zA zs j) → zA o i ≤ zA zs i

theorem lgTo_take {l : List Cl} {zs ord : List Int} (h : ∀ i, i < ord.length → zA ord i = zA zs i) : ∀ k, k ≤ ord.length → lgTo l ord k = lgTo l zs k
  | 0, _ => rfl
  | k + 1, hk => by rw [lgTo, lgTo, lgTo_take h k (by omega), h k (by omega)]
theorem lgTo_some {l : List Cl} {zs : List Int} (h : legB l zs = true) {k : Nat} (hk : k ≤ zs.length) : ∃ vs, lgTo l zs k = some vs := by
  cases g : lgTo l zs k with
  | some vs => exact ⟨vs, rfl⟩
  | none => rw [legB_bad hk g] at h; cases h

theorem fst_least {g : Nat → List Int} {k0 : Nat} : ∀ {n : Nat}, k0 < n → 0 < (g k0).length → ∃ k, k ≤ k0 ∧ 0 < (g k).length ∧ fstTo g n = g k
  | n, hk, hl => by
    have key : ∀ d, d ≤ k0 → (∀ j, j < d → g j = []) ∨ ∃ k, k ≤ k0 ∧ 0 < (g k).length ∧ ∀ j, j < k → g j = [] := by
      intro d
      induction d with
      | zero => intro _; exact .inl fun j hj => absurd hj (Nat.not_lt_zero _)
      | succ d ih =>
        intro hd
        rcases ih (by omega) with h | h
        · by_cases e : (g d).length = 0
          · exact .inl fun j hj => by
              rcases Nat.lt_or_eq_of_le (Nat.le_of_lt_succ hj) with h1 | rfl
              · exact h j h1
              · exact List.eq_nil_of_length_eq_zero e
          · exact .inr ⟨d, by omega, by omega, h⟩
        · exact .inr h
    rcases key k0 (Nat.le_refl _) with h | ⟨k, h1, h2, h3⟩
    · exact ⟨k0, Nat.le_refl _, hl, fstTo_hit hk h hl⟩
    · exact ⟨k, h1, h2, fstTo_hit (by omega) h3 h2⟩

theorem find_least {l : List Cl} {zs : List Int} (_hg : goodCl l = true) (ho : ordB l.length zs = true) (hlg : legB l zs = true) (hrt : rspB l zs = true) : ∀ (n : Nat) (ord : List Int), ord.length + n = l.length → (∀ i, i < ord.length → zA ord i = zA zs i) →
    (findL l false n ord).length = l.length ∧ lexLe l.length (findL l false n ord) zs
  | 0, ord, hl, hp => by
    obtain ⟨vs, hvs⟩ := lgTo_some hlg (k := ord.length) (by have := (ordB_t ho).2; omega)
    rw [findL_end (by unfold legB; rw [lgTo_take hp _ (Nat.le_refl _), hvs]; rfl) (by omega)]
    exact ⟨by omega, fun i hi _ => by rw [hp i (by omega)]; exact Int.le_refl _⟩
  | n + 1, ord, hl, hp => by
    have hzl := (ordB_t ho).2
    have hod := (ordB_t ho).1
    obtain ⟨vs, hvs⟩ := lgTo_some hlg (k := ord.length) (by omega)
    have hlo : legB l ord = true := by unfold legB; rw [lgTo_take hp _ (Nat.le_refl _), hvs]; rfl
    have hd : ord.length < zs.length := by omega
    obtain ⟨⟨z1, z2⟩, z3⟩ := hod ord.length hd
    obtain ⟨k0, hk0⟩ : ∃ k0 : Nat, zA zs ord.length = (k0 : Int) := ⟨(zA zs ord.length).toNat, by omega⟩
    rw [hk0] at z1 z2
    have hnd := ord_all hod hzl
    have hmem : ∀ t : Int, t ∈ ord → ∃ i, i < ord.length ∧ zA zs i = t := fun t ht => by
      obtain ⟨i, hi⟩ := List.getElem?_of_mem ht
      have hil := (List.getElem?_eq_some_iff.1 hi).1
      exact ⟨i, hil, by rw [← hp i hil]; rw [zA_get hil] at hi; exact Option.some.inj hi⟩
    have hf : freeTo l false ord k0 l.length = true := by
      refine freeTo_iff.2 ⟨fun h => ?_, fun t ht => ?_⟩
      · obtain ⟨i, hi, e⟩ := hmem _ h
        exact hnd.2 i ord.length hi hd (by rw [e, hk0])
      · obtain ⟨j, hj, hjt⟩ := hnd.1 t ht
        rcases Nat.lt_trichotomy j ord.length with h | h | h
        · refine .inr (.inl ?_)
          have hm : zA ord j ∈ ord := List.mem_of_getElem? (zA_get h)
          rw [hp j h, hjt] at hm
          exact hm
        · subst h; rw [hk0] at hjt; exact .inl (by omega)
        · have hr : rtTo l zs zs.length := by simpa [rspB] using hrt
          have := hr ord.length hd j h hj
          rw [hjt, hk0] at this
          exact .inr (.inr this)
    have hp2 : ∀ i, i < (ord ++ [(k0 : Int)]).length → zA (ord ++ [(k0 : Int)]) i = zA zs i := fun i hi => by
      by_cases e : i < ord.length
      · rw [zA_app_lt e, hp i e]
      · have e2 : i = ord.length := by simp at hi; omega
        subst e2; rw [zA_app_end, hk0]
    obtain ⟨i1, i2⟩ := find_least _hg ho hlg hrt n (ord ++ [(k0 : Int)]) (by simp; omega) hp2
    obtain ⟨k, hk, hkl, hke⟩ := fst_least (g := nxtL l false n ord) (n := l.length) (k0 := k0) (by omega) (by rw [nxtL_t hf, i1]; omega)
    rw [findL_go hlo (by omega), hke]
    by_cases e : k = k0
    · subst e; rw [nxtL_t hf]; exact ⟨i1, i2⟩
    · have hfk : freeTo l false ord k l.length = true := by
        cases g : freeTo l false ord k l.length
        · rw [nxtL_f g] at hkl; simp at hkl
        · rfl
      rw [nxtL_t hfk] at hkl ⊢
      have hne : findL l false n (ord ++ [(k : Int)]) ≠ [] := fun h => by rw [h] at hkl; simp at hkl
      have hpre := findL_pre n _ hne
      refine ⟨?_, fun i hi hh => ?_⟩
      · rcases findL_or (l := l) (cl := false) n (ord ++ [(k : Int)]) with h | h
        · exact absurd h hne
        · exact h
      · rcases Nat.lt_trichotomy i ord.length with h | h | h
        · rw [hpre i (by simp; omega), zA_app_lt h, hp i h]; exact Int.le_refl _
        · subst h
          rw [hpre ord.length (by simp), zA_app_end, hk0]; omega
        · have := hh ord.length h
          rw [hpre ord.length (by simp), zA_app_end, hk0] at this
          omega

theorem mul2 (k : Nat) : (k + 1) * k = k * (k - 1) + 2 * k := by
  cases k with
  | zero => rfl
  | succ k =>
    rw [Nat.add_sub_cancel, Nat.add_mul (k + 1) 1 (k + 1), Nat.one_mul, Nat.mul_add (k + 1) k 1, Nat.mul_one]; omega
/-- Some pair does not overlap: then not all do. -/
theorem ovN_lt {l : List Cl} {x : Cl} {j : Nat} : ∀ {k : Nat}, j < k → ovB x (clA l j) = false → ovN l x k < k
  | 0, h, _ => absurd h (Nat.not_lt_zero _)
  | k + 1, h, hb => by
    rw [ovN]
    rcases Nat.lt_or_eq_of_le (Nat.le_of_lt_succ h) with h1 | rfl
    · have := ovN_lt h1 hb; split <;> omega
    · rw [hb]; have := ovN_le l x j; simp; omega
theorem ovTo_two (l : List Cl) : ∀ k, 2 * ovTo l k ≤ k * (k - 1)
  | 0 => by simp [ovTo]
  | k + 1 => by
    have h1 := ovTo_two l k
    have h2 := ovN_le l (clA l k) k
    rw [ovTo, Nat.add_sub_cancel]
    have h3 : (k + 1) * k = k * (k - 1) + 2 * k := mul2 k
    omega
theorem ovTo_lt {l : List Cl} {i j : Nat} (hij : i < j) (hb : ovB (clA l j) (clA l i) = false) : ∀ {k : Nat}, j < k → 2 * ovTo l k < k * (k - 1)
  | 0, h => absurd h (Nat.not_lt_zero _)
  | k + 1, h => by
    rw [ovTo, Nat.add_sub_cancel]
    have h3 : (k + 1) * k = k * (k - 1) + 2 * k := mul2 k
    rcases Nat.lt_or_eq_of_le (Nat.le_of_lt_succ h) with h1 | rfl
    · have := ovTo_lt hij hb h1
      have h2 := ovN_le l (clA l k) k
      omega
    · have := ovN_lt hij hb
      have h2 := ovTo_two l j
      omega
theorem late_pair {l : List Cl} {zs : List Int} (ho : ordB l.length zs = true) (hrt : rspB l zs = false) : 2 * ovTo l l.length < l.length * (l.length - 1) := by
  have hod := (ordB_t ho).1
  have hzl := (ordB_t ho).2
  have hnd := ord_all hod hzl
  have : ¬ rtTo l zs zs.length := by simpa [rspB] using hrt
  have hex : ∃ i j, i < j ∧ j < zs.length ∧ befB false (clA l (zA zs j).toNat) (clA l (zA zs i).toNat) = true := by
    refine Classical.byContradiction fun hne => this fun i _ j hij hj => ?_
    cases g : befB false (clA l (zA zs j).toNat) (clA l (zA zs i).toNat)
    · rfl
    · exact absurd ⟨i, j, hij, hj, g⟩ hne
  obtain ⟨i, j, hij, hj, hb⟩ := hex
  have hi := (hod i (by omega)).1
  have hj2 := (hod j hj).1
  have hne : (zA zs i).toNat ≠ (zA zs j).toNat := fun e => hnd.2 i j hij hj (by omega)
  have hle : (clA l (zA zs j).toNat).fin ≤ (clA l (zA zs i).toNat).beg := by simpa [befB] using hb
  rcases Nat.lt_or_gt_of_ne hne with h | h
  · exact ovTo_lt h (by unfold ovB; simp; intro _; omega) (by omega)
  · exact ovTo_lt h (by unfold ovB; simp; omega) (by omega)

end Go.Proofs.YtmbfdonefpegeaaDoor
