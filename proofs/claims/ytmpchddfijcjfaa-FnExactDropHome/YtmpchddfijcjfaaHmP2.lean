/-
  Rooms as the program gives them: homes in the order of their loads, the first ones have one more; and that it is what the specification tells.
-/
import Derived.Test.YtmpchddfijcjfaaHmP
namespace Go.Proofs.Ytmpchddfijcjfaa
open Go.RowKit Go.Maps

/-- One home has one more ahead of another. -/
def btH (ld : Int → Int) (a b : Int) : Prop := ld b < ld a ∨ (ld a = ld b ∧ a < b)
theorem btH_trans (ld : Int → Int) (a b c : Int) (h1 : btH ld a b) (h2 : btH ld b c) : btH ld a c := by unfold btH at *; omega

theorem bst_is {ls rs : List Int} {q gone : Int} {b n : Nat} (hbn : b < n) (h1 : (b : Int) ≠ gone) (h2 : zA rs b = q)
    (h3 : ∀ h : Nat, h < n → (h : Int) ≠ gone → zA rs h = q → h ≠ b → zA ls h < zA ls b ∨ (zA ls b = zA ls h ∧ b < h)) : ∀ m, b < m → m ≤ n → bstTo ls rs q gone m = (b : Int)
  | 0, hm, _ => by omega
  | m + 1, hm, hmn => by
    by_cases e : m = b
    · subst e
      refine bstTo_t ⟨⟨h1, h2⟩, ?_⟩
      by_cases c : bstTo ls rs q gone m < 0
      · exact .inl c
      · right
        obtain ⟨k1, k2⟩ := bstTo_el ls rs q gone m (by omega)
        have k3 := (bstTo_rg ls rs q gone m).2
        obtain ⟨h, hh⟩ : ∃ h : Nat, bstTo ls rs q gone m = h := ⟨(bstTo ls rs q gone m).toNat, by omega⟩
        rw [hh] at k1 k2 k3 ⊢
        rw [Int.toNat_natCast] at k2 ⊢
        have := h3 h (by omega) k1 k2 (by omega)
        omega
    · have ih := bst_is hbn h1 h2 h3 m (by omega) (by omega)
      rw [bstTo_f, ih]
      rw [ih]
      intro c
      have := h3 m (by omega) c.1.1 c.1.2 e
      rw [Int.toNat_natCast] at c
      omega

/-- The rooms when j homes of the list have one more. -/
def rsJ (n : Nat) (q gone : Int) (L : List Int) (j : Nat) : List Int := (List.range n).map fun h : Nat => if (h : Int) = gone then 0 else if (h : Int) ∈ L.take j then q + 1 else q
theorem rsJ_len (n : Nat) (q gone : Int) (L : List Int) (j : Nat) : (rsJ n q gone L j).length = n := by simp [rsJ]
theorem rsJ_get {n : Nat} {q gone : Int} {L : List Int} {j h : Nat} (hh : h < n) : zA (rsJ n q gone L j) h = if (h : Int) = gone then 0 else if (h : Int) ∈ L.take j then q + 1 else q := by simp [zA, rsJ, List.getD_eq_getElem?_getD, hh]
theorem rsJ_zero (n : Nat) (q gone : Int) (L : List Int) : rm0 n q gone = rsJ n q gone L 0 := ext_zA (by simp [rm0, rsJ]) fun h hh => by
  rw [rm0_len] at hh
  rw [rm0_get hh, rsJ_get hh]; simp
theorem mem_takeZ {L : List Int} (hn : L.Nodup) {i r : Nat} (hi : i < L.length) : zA L i ∈ L.take r ↔ i < r := by
  constructor
  · intro h
    obtain ⟨k, hk⟩ := List.getElem?_of_mem h
    have hk1 := (List.getElem?_eq_some_iff.1 hk).1
    rw [List.length_take] at hk1
    rw [List.getElem?_take_of_lt (by omega)] at hk
    have hi2 := zA_get hi
    have : k = i := (List.getElem?_inj (by omega) hn).1 (hk.trans hi2.symm)
    omega
  · intro h
    refine List.mem_of_getElem? (i := i) ?_
    rw [List.getElem?_take_of_lt h, zA_get hi]
theorem take_succ_mem {L : List Int} {j : Nat} (hj : j < L.length) (z : Int) : z ∈ L.take (j + 1) ↔ z ∈ L.take j ∨ z = zA L j := by
  rw [take_snocZ hj, List.mem_append, List.mem_singleton]
theorem rsJ_step {n : Nat} {q gone : Int} {L : List Int} {j b : Nat} (hn : L.Nodup) (hj : j < L.length) (hb : zA L j = (b : Int)) (hbn : b < n) (hg : (b : Int) ≠ gone) : incR (rsJ n q gone L j) (b : Int) = rsJ n q gone L (j + 1) := by
  unfold incR
  rw [Int.toNat_natCast]
  refine ext_zA (by simp [rsJ]) fun h hh => ?_
  rw [List.length_set, rsJ_len] at hh
  have hnot : ¬ (b : Int) ∈ L.take j := by rw [← hb, mem_takeZ hn hj]; omega
  rw [rsJ_get hh]
  by_cases e : b = h
  · subst e
    rw [zA_set_same (by rw [rsJ_len]; exact hbn), rsJ_get hbn, if_neg hg, if_neg hnot, if_neg hg, if_pos (by rw [take_succ_mem hj, hb]; exact .inr rfl)]
  · rw [zA_set_other e, rsJ_get hh]
    by_cases g : (h : Int) = gone
    · rw [if_pos g, if_pos g]
    · rw [if_neg g, if_neg g]
      by_cases c : (h : Int) ∈ L.take j
      · rw [if_pos c, if_pos (by rw [take_succ_mem hj]; exact .inl c)]
      · rw [if_neg c, if_neg (by rw [take_succ_mem hj, hb]; intro d; rcases d with d | d; exact c d; omega)]

/-- A list of the homes in the order in which they have one more. -/
structure OrdH (n : Nat) (gone : Int) (ls : List Int) (L : List Int) : Prop where
  nd : L.Nodup
  mem : ∀ z, z ∈ L ↔ (0 ≤ z ∧ z < (n : Int)) ∧ z ≠ gone
  ord : L.Pairwise (btH fun z => zA ls z.toNat)
theorem OrdH.at {n : Nat} {gone : Int} {ls L : List Int} (h : OrdH n gone ls L) {j : Nat} (hj : j < L.length) : ∃ b : Nat, zA L j = (b : Int) ∧ b < n ∧ (b : Int) ≠ gone := by
  have := (h.mem (zA L j)).1 (List.mem_of_getElem? (zA_get hj))
  exact ⟨(zA L j).toNat, by omega, by omega, by omega⟩
theorem OrdH.best {n : Nat} {q gone : Int} {ls L : List Int} (h : OrdH n gone ls L) {j b : Nat} (hj : j < L.length) (hb : zA L j = (b : Int)) (hbn : b < n) (hg : (b : Int) ≠ gone) : bstTo ls (rsJ n q gone L j) q gone n = (b : Int) := by
  have hnot : ¬ (b : Int) ∈ L.take j := by rw [← hb, mem_takeZ h.nd hj]; omega
  refine bst_is hbn hg (by rw [rsJ_get hbn, if_neg hg, if_neg hnot]) (fun k hk hkg hkq hkb => ?_) n hbn (Nat.le_refl _)
  rw [rsJ_get hk, if_neg hkg] at hkq
  have hkn : ¬ (k : Int) ∈ L.take j := fun c => by rw [if_pos c] at hkq; omega
  have hkL : (k : Int) ∈ L := (h.mem _).2 ⟨by omega, hkg⟩
  obtain ⟨i, hi⟩ := List.getElem?_of_mem hkL
  have hi1 := (List.getElem?_eq_some_iff.1 hi).1
  have hik : zA L i = (k : Int) := by rw [zA_get hi1] at hi; exact Option.some.inj hi
  have hji : j < i := by
    have : ¬ i < j := fun c => hkn (by rw [← hik, mem_takeZ h.nd hi1]; exact c)
    have : i ≠ j := fun c => by subst c; rw [hb] at hik; omega
    omega
  have hpw := List.pairwise_iff_getElem.1 h.ord j i hj hi1 hji
  have e1 : L[j] = (b : Int) := by have := zA_get hj; rw [List.getElem?_eq_getElem hj, hb] at this; exact Option.some.inj this
  have e2 : L[i] = (k : Int) := by have := zA_get hi1; rw [List.getElem?_eq_getElem hi1, hik] at this; exact Option.some.inj this
  rw [e1, e2] at hpw
  unfold btH at hpw
  simp only [Int.toNat_natCast] at hpw
  omega
theorem OrdH.rooms {n : Nat} {q gone : Int} {ls L : List Int} (h : OrdH n gone ls L) : ∀ (m j : Nat), j + m ≤ L.length → rmIt ls q gone n m (rsJ n q gone L j) = rsJ n q gone L (j + m)
  | 0, j, _ => rfl
  | m + 1, j, hm => by
    obtain ⟨b, h1, h2, h3⟩ := h.at (by omega : j < L.length)
    rw [rmIt, h.best (by omega) h1 h2 h3, rsJ_step h.nd (by omega) h1 h2 h3, h.rooms m (j + 1) (by omega), show j + 1 + m = j + (m + 1) by omega]

/-- How many homes there are. -/
theorem OrdH.len {n : Nat} {gone : Int} {ls L : List Int} (h : OrdH n gone ls L) (hg : -1 ≤ gone ∧ gone < (n : Int)) : L.length = manyH n gone := by
  have hio : ((List.range n).map fun h : Nat => (h : Int)).Nodup := (iota_lt n).imp fun {a b} h => by omega
  have hmem : ∀ z, z ∈ ((List.range n).map fun h : Nat => (h : Int)) ↔ 0 ≤ z ∧ z < (n : Int) := fun z => by
    rw [List.mem_map]
    constructor
    · rintro ⟨k, hk, rfl⟩; rw [List.mem_range] at hk; omega
    · intro hz; exact ⟨z.toNat, by rw [List.mem_range]; omega, by omega⟩
  unfold manyH
  by_cases c : 0 ≤ gone
  · rw [if_pos c]
    have hp : (gone :: L).Perm ((List.range n).map fun h : Nat => (h : Int)) := by
      refine (List.perm_ext_iff_of_nodup ?_ hio).2 fun z => ?_
      · exact List.nodup_cons.2 ⟨fun d => ((h.mem _).1 d).2 rfl, h.nd⟩
      · rw [List.mem_cons, h.mem, hmem]
        constructor
        · rintro (d | d)
          · rw [d]; omega
          · exact d.1
        · intro d
          by_cases e : z = gone
          · exact .inl e
          · exact .inr ⟨d, e⟩
    have := hp.length_eq
    simp at this
    omega
  · rw [if_neg c]
    have hp : L.Perm ((List.range n).map fun h : Nat => (h : Int)) := by
      refine (List.perm_ext_iff_of_nodup h.nd hio).2 fun z => ?_
      rw [h.mem, hmem]
      constructor
      · exact fun d => d.1
      · intro d; exact ⟨d, by omega⟩
    have := hp.length_eq
    simpa using this
theorem OrdH.is {n : Nat} {gone : Int} {l o L : List Int} (h : OrdH n gone (loadL n o) L) (hg : -1 ≤ gone ∧ gone < (n : Int)) (ho : o.length = l.length) (h0 : 0 < L.length) : roomL n o gone = rsJ n ((l.length / L.length : Nat) : Int) gone L (l.length % L.length) := by
  unfold roomL
  rw [ho, ← h.len hg, rsJ_zero n _ gone L, h.rooms _ _ (by have := Nat.mod_lt l.length h0; omega), Nat.zero_add]

/-- What the program lays into its map, home by home. -/
def rmAt (q : Int) (r i : Nat) : Int := if i < r then q + 1 else q
def rkF (L : List Int) (q : Int) (r : Nat) : Nat → Int → Option Int
  | 0 => fun _ => none
  | i + 1 => if 0 < rmAt q r i then upM (rkF L q r i) (zA L i) (some (rmAt q r i)) else rkF L q r i
def optP (v : Int) : Option Int := if 0 < v then some v else none
theorem rkF_is {L : List Int} (hn : L.Nodup) (q : Int) (r : Nat) : ∀ i, i ≤ L.length → ∀ z, rkF L q r i z = if z ∈ L.take i then (if z ∈ L.take r then optP (q + 1) else optP q) else none
  | 0, _, z => by simp [rkF]
  | i + 1, hi, z => by
    have ih := rkF_is hn q r i (by omega) z
    have hm := mem_takeZ hn (r := r) (by omega : i < L.length)
    have hv : (if zA L i ∈ L.take r then optP (q + 1) else optP q) = optP (rmAt q r i) := by
      unfold rmAt
      by_cases c : i < r
      · rw [if_pos (hm.2 c), if_pos c]
      · rw [if_neg (fun d => c (hm.1 d)), if_neg c]
    by_cases e : z = zA L i
    · subst e
      rw [if_pos ((take_succ_mem (by omega) _).2 (.inr rfl)), hv]
      rw [rkF]
      unfold optP
      by_cases c : 0 < rmAt q r i
      · rw [if_pos c, if_pos c, upM_same]
      · rw [if_neg c, if_neg c, ih, if_neg (by rw [mem_takeZ hn (by omega)]; omega)]
    · have : rkF L q r (i + 1) z = rkF L q r i z := by
        rw [rkF]
        by_cases c : 0 < rmAt q r i
        · rw [if_pos c, upM_other e]
        · rw [if_neg c]
      rw [this, ih]
      by_cases c : z ∈ L.take i
      · rw [if_pos c, if_pos ((take_succ_mem (by omega) _).2 (.inl c))]
      · rw [if_neg c, if_neg (fun d => by rcases (take_succ_mem (by omega) _).1 d with d | d; exact c d; exact e d)]
theorem rkF_rooms {n : Nat} {q gone : Int} {ls L : List Int} (h : OrdH n gone ls L) (r : Nat) (z : Int) : rkF L q r L.length z = rmF (rsJ n q gone L r) z := by
  rw [rkF_is h.nd q r L.length (Nat.le_refl _) z, List.take_length]
  unfold rmF
  rw [rsJ_len]
  by_cases c : z ∈ L
  · obtain ⟨c1, c2⟩ := (h.mem z).1 c
    have hz : ((z.toNat : Nat) : Int) = z := by omega
    rw [if_pos c, rsJ_get (by omega : z.toNat < n), hz, if_neg c2]
    unfold optP
    by_cases d : z ∈ L.take r
    · rw [if_pos d, if_pos d]
      by_cases e : 0 < q + 1
      · rw [if_pos e, if_pos ⟨c1.1, c1.2, e⟩]
      · rw [if_neg e, if_neg (fun x => e x.2.2)]
    · rw [if_neg d, if_neg d]
      by_cases e : 0 < q
      · rw [if_pos e, if_pos ⟨c1.1, c1.2, e⟩]
      · rw [if_neg e, if_neg (fun x => e x.2.2)]
  · rw [if_neg c]
    by_cases d : 0 ≤ z ∧ z < (n : Int)
    · have hg : z = gone := Classical.byContradiction fun e => c ((h.mem z).2 ⟨d, e⟩)
      have hz : ((z.toNat : Nat) : Int) = z := by omega
      rw [rsJ_get (by omega : z.toNat < n), hz, if_pos hg, if_neg (by omega)]
    · rw [if_neg (fun x => d ⟨x.1, x.2.1⟩)]
theorem rsJ_low {n : Nat} {q gone : Int} {L : List Int} {j : Nat} (hq : 0 ≤ q) : ∀ h, h < n → 0 ≤ zA (rsJ n q gone L j) h := fun h hh => by
  rw [rsJ_get hh]
  split
  · omega
  · split <;> omega
theorem rsJ_gone {n : Nat} {q gone : Int} {L : List Int} {j : Nat} (h0 : 0 ≤ gone) (h1 : gone < (n : Int)) : zA (rsJ n q gone L j) gone.toNat = 0 := by
  rw [rsJ_get (by omega), if_pos (by omega)]

end Go.Proofs.Ytmpchddfijcjfaa
