/-
  What is ahead of one is ahead of all that it is ahead of: in plain mathematics.
-/
import Derived.Test.YtiabgomeogcpnaaDoorCPfK
import Derived.Test.YtiabgomeogcpnaaDoorHBfK
namespace Go.Proofs.YtiabgomeogcpnaaDoor
open Go.RowKit

/-- The past of one event. -/
def mkE (l : List Ev) (i : Nat) : Nat := orC (maskTo l i) (causes l i (evA l i)) (causes l i (evA l i)).length
theorem mask_ev (l : List Ev) (i : Nat) : ∀ n, i < n → (maskTo l n).getD i 0 = mkE l i
  | 0, h => by omega
  | n + 1, h => by
    rw [maskTo, List.getD_eq_getElem?_getD]
    by_cases e : i = n
    · subst e
      rw [List.getElem?_append_right (by rw [maskTo_len]; exact Nat.le_refl _), maskTo_len, Nat.sub_self]; rfl
    · rw [List.getElem?_append_left (by rw [maskTo_len]; omega), ← List.getD_eq_getElem?_getD]
      exact mask_ev l i n (by omega)
theorem orC_bit (ms : List Nat) (ks : List Int) (t : Nat) : ∀ j, (orC ms ks j).testBit t = true ↔ ∃ i, i < j ∧ (t = (zA ks i).toNat ∨ (ms.getD (zA ks i).toNat 0).testBit t = true)
  | 0 => by simp [orC]
  | j + 1 => by
    rw [orC, Nat.testBit_or, Nat.testBit_or, Bool.or_eq_true, Bool.or_eq_true, orC_bit ms ks t j, Nat.testBit_two_pow, decide_eq_true_eq]
    constructor
    · rintro ((⟨i, h1, h2⟩ | h) | h)
      · exact ⟨i, by omega, h2⟩
      · exact ⟨j, by omega, .inl h.symm⟩
      · exact ⟨j, by omega, .inr h⟩
    · rintro ⟨i, h1, h2⟩
      rcases Nat.lt_or_eq_of_le (Nat.le_of_lt_succ h1) with h3 | rfl
      · exact .inl (.inl ⟨i, h3, h2⟩)
      · rcases h2 with h | h
        · exact .inl (.inr h.symm)
        · exact .inr h
/-- A past lies below its event, and has the pasts of its own. -/
theorem mkE_past {procs : Int} {l : List Ev} (h : okEv procs l l.length) : ∀ n i, i < n → n ≤ l.length → ∀ t, (mkE l i).testBit t = true → t < i ∧ ∀ s, (mkE l t).testBit s = true → (mkE l i).testBit s = true
  | 0, i, hi, _, t, _ => by omega
  | n + 1, i, hi, hn, t, ht => by
    have ih := mkE_past h n
    by_cases e : i < n
    · exact ih i e (by omega) t ht
    obtain rfl : i = n := by omega
    obtain ⟨j, hj, hc⟩ := (orC_bit _ _ t _).1 ht
    obtain ⟨c, hz, hcm⟩ : ∃ c : Nat, (zA (causes l i (evA l i)) j).toNat = c ∧ c < i := by
      have := causes_mem (h i (by omega)).2 (List.mem_of_getElem? (zA_get hj))
      exact ⟨_, rfl, by omega⟩
    rw [hz, mask_ev l c i hcm] at hc
    have hin : ∀ s, (s = c ∨ (mkE l c).testBit s = true) → (mkE l i).testBit s = true := fun s hs =>
      (orC_bit _ _ s _).2 ⟨j, hj, by rw [hz, mask_ev l c i hcm]; exact hs⟩
    rcases hc with rfl | hc
    · exact ⟨hcm, fun s hs => hin s (.inr hs)⟩
    · obtain ⟨h1, h2⟩ := ih c hcm (by omega) t hc
      exact ⟨by omega, fun s hs => hin s (.inr (h2 s hs))⟩

theorem filter_less {α : Type} {f g : α → Bool} : ∀ {L : List α}, (∀ x ∈ L, f x = true → g x = true) → (∃ x ∈ L, g x = true ∧ f x = false) → (L.filter f).length < (L.filter g).length
  | [], _, ⟨x, hx, _⟩ => by cases hx
  | y :: L, h1, ⟨x, hx, hg, hf⟩ => by
    have hle : (L.filter f).length ≤ (L.filter g).length := by
      clear hx hg hf x
      have h2 : ∀ x ∈ L, f x = true → g x = true := fun x hx => h1 x (List.mem_cons_of_mem _ hx)
      clear h1
      induction L with
      | nil => simp
      | cons z L ih =>
        have := ih (fun x hx => h2 x (List.mem_cons_of_mem _ hx))
        have hz := h2 z (List.mem_cons_self ..)
        cases hfz : f z with
        | true => rw [List.filter_cons_of_pos hfz, List.filter_cons_of_pos (hz hfz)]; simpa using this
        | false =>
          rw [List.filter_cons_of_neg (by simp [hfz])]
          cases hgz : g z with
          | true => rw [List.filter_cons_of_pos hgz]; simp; omega
          | false => rw [List.filter_cons_of_neg (by simp [hgz])]; exact this
    rcases List.mem_cons.1 hx with rfl | hx2
    · rw [List.filter_cons_of_pos hg, List.filter_cons_of_neg (by simp [hf])]; simp; omega
    · have ih := filter_less (L := L) (f := f) (g := g) (fun z hz => h1 z (List.mem_cons_of_mem _ hz)) ⟨x, hx2, hg, hf⟩
      have hy := h1 y (List.mem_cons_self ..)
      cases hfy : f y with
      | true => rw [List.filter_cons_of_pos hfy, List.filter_cons_of_pos (hy hfy)]; simpa using ih
      | false =>
        rw [List.filter_cons_of_neg (by simp [hfy])]
        cases hgy : g y with
        | true => rw [List.filter_cons_of_pos hgy]; simp; omega
        | false => rw [List.filter_cons_of_neg (by simp [hgy])]; exact ih

/-- What the law says of a past: each of it is there, below, ahead, its own past is less and in it. -/
theorem past_all {procs : Int} {l : List Ev} {z : Int} (h : thereB procs l z = true) : ∀ k ∈ cpL procs l z, thereB procs l k = true ∧ k < z ∧ hbB procs l k z = true ∧ hbV procs l k z = true ∧ (cpL procs l k).length < (cpL procs l z).length ∧ ∀ x ∈ cpL procs l k, x ∈ cpL procs l z := fun k hk => by
  obtain ⟨h1, h2, h3⟩ := thereB_t.1 h
  obtain ⟨h4, h5, h6⟩ := goodEv_t.1 h1
  rw [cpL, if_pos h] at hk
  obtain ⟨hk24, hb⟩ := bitsL_mem.1 hk
  rw [mask_ev l z.toNat l.length (by omega)] at hb
  obtain ⟨hlt, hsub⟩ := mkE_past h4 l.length z.toNat (by omega) (Nat.le_refl _) k.toNat hb
  have hk2 : thereB procs l k = true := thereB_t.2 ⟨h1, by omega, by omega⟩
  have hbB1 : hbB procs l k z = true := by rw [hbB, hk2, h]; rfl
  refine ⟨hk2, by omega, hbB1, by rw [hbV, hbB1, mask_ev l z.toNat l.length (by omega), hb]; rfl, ?_, fun x hx => ?_⟩
  · rw [cpL, cpL, if_pos h, if_pos hk2, mask_ev l z.toNat l.length (by omega), mask_ev l k.toNat l.length (by omega)]
    unfold bitsL
    refine filter_less (fun x hx hf => ?_) ⟨k, rng_mem.2 (by omega), by unfold bitB; exact hb, ?_⟩
    · unfold bitB at hf ⊢; exact hsub _ hf
    · unfold bitB
      rw [Bool.eq_false_iff]
      intro hc
      have := (mkE_past h4 l.length k.toNat (by omega) (Nat.le_refl _) k.toNat hc).1
      omega
  · rw [cpL, if_pos hk2, mask_ev l k.toNat l.length (by omega)] at hx
    obtain ⟨hx24, hxb⟩ := bitsL_mem.1 hx
    rw [cpL, if_pos h, mask_ev l z.toNat l.length (by omega)]
    exact bitsL_mem.2 ⟨hx24, hsub _ hxb⟩
/-- No two are ahead of each other. -/
theorem past_one {procs : Int} {l : List Ev} {x y : Int} (h : hbB procs l x y = true) : (hbV procs l x y && hbV procs l y x) = false := by
  simp only [hbB, Bool.and_eq_true] at h
  obtain ⟨h1, h2, h3⟩ := thereB_t.1 h.1
  obtain ⟨h4, h5, h6⟩ := thereB_t.1 h.2
  have h7 := (goodEv_t.1 h1).1
  rw [Bool.eq_false_iff]
  intro hc
  simp only [Bool.and_eq_true, hbV] at hc
  obtain ⟨⟨-, a1⟩, -, a2⟩ := hc
  rw [mask_ev l _ l.length (by omega)] at a1 a2
  have b1 := (mkE_past h7 l.length y.toNat (by omega) (Nat.le_refl _) x.toNat a1).1
  have b2 := (mkE_past h7 l.length x.toNat (by omega) (Nat.le_refl _) y.toNat a2).1
  omega

end Go.Proofs.YtiabgomeogcpnaaDoor
