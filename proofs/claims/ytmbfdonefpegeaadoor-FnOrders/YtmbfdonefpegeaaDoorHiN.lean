/-
  The least order that is found, in mathematics: who is left, as a set; who may come next; which try is the first that is found.
-/
import Derived.Test.YtmbfdonefpegeaaDoorHiF2J
import Derived.Test.YtmbfdonefpegeaaDoorQMath
import Derived.Test.YtmbfdonefpegeaaDoorQList
namespace Go.Proofs.YtmbfdonefpegeaaDoor
open Go.RowKit

theorem zA_app_lt {ord : List Int} {z : Int} {j : Nat} (h : j < ord.length) : zA (ord ++ [z]) j = zA ord j := by
  simp [zA, List.getD_eq_getElem?_getD, List.getElem?_append_left h]
theorem zA_app_end (ord : List Int) (z : Int) : zA (ord ++ [z]) ord.length = z := by simp [zA, List.getD_eq_getElem?_getD]
theorem lgTo_app (l : List Cl) (ord : List Int) (z : Int) : ∀ j, j ≤ ord.length → lgTo l (ord ++ [z]) j = lgTo l ord j
  | 0, _ => rfl
  | j + 1, h => by rw [lgTo, lgTo, lgTo_app l ord z j (by omega), zA_app_lt (by omega)]
theorem lgTo_snoc {l : List Cl} {ord vs : List Int} {m : Nat} (h : lgTo l ord ord.length = some vs) : lgTo l (ord ++ [(m : Int)]) (ord ++ [(m : Int)]).length = lgS vs (clA l m) := by
  rw [List.length_append, List.length_singleton, lgTo, lgTo_app l ord _ _ (Nat.le_refl _), h, zA_app_end]; rfl
theorem legB_snoc_no {l : List Cl} {ord vs : List Int} {m : Nat} (h : lgTo l ord ord.length = some vs) (hn : lgS vs (clA l m) = none) : legB l (ord ++ [(m : Int)]) = false := by
  unfold legB; rw [lgTo_snoc h, hn]; rfl

theorem fstTo_or {g : Nat → List Int} {m : Nat} (h : ∀ k, g k = [] ∨ (g k).length = m) : ∀ n, fstTo g n = [] ∨ (fstTo g n).length = m
  | 0 => .inl rfl
  | n + 1 => by
    rw [fstTo]
    split
    · exact h n
    · exact fstTo_or h n
theorem findL_or {l : List Cl} {cl : Bool} : ∀ (n : Nat) (ord : List Int), findL l cl n ord = [] ∨ (findL l cl n ord).length = l.length
  | 0, ord => by
    rw [findL]
    split
    · split
      · rename_i h; exact .inr h
      · exact .inl rfl
    · exact .inl rfl
  | n + 1, ord => by
    rw [findL]
    split
    · split
      · rename_i h; exact .inr h
      · refine fstTo_or (fun k => ?_) _
        split
        · exact findL_or n _
        · exact .inl rfl
    · exact .inl rfl

theorem freeTo_iff {l : List Cl} {cl : Bool} {ord : List Int} {k : Nat} : ∀ {o : Nat}, freeTo l cl ord k o = true ↔ (¬ (k : Int) ∈ ord ∧ ∀ t, t < o → (t = k ∨ (t : Int) ∈ ord ∨ befB cl (clA l t) (clA l k) = false))
  | 0 => by
    rw [freeTo]
    refine ⟨fun h => ⟨fun g => (by rw [List.contains_iff_mem.2 g] at h; cases h), fun t ht => absurd ht (Nat.not_lt_zero _)⟩, fun h => ?_⟩
    cases g : ord.contains (k : Int)
    · rfl
    · exact absurd (List.contains_iff_mem.1 g) h.1
  | o + 1 => by
    rw [freeTo, Bool.and_eq_true, freeTo_iff (o := o)]
    constructor
    · rintro ⟨⟨h1, h2⟩, h3⟩
      refine ⟨h1, fun t ht => ?_⟩
      rcases Nat.lt_or_eq_of_le (Nat.le_of_lt_succ ht) with h | rfl
      · exact h2 t h
      · by_cases e : t = k
        · exact .inl e
        · right
          by_cases e2 : (t : Int) ∈ ord
          · exact .inl e2
          · right
            cases e3 : befB cl (clA l t) (clA l k)
            · rfl
            · simp [e, e2, e3] at h3
    · rintro ⟨h1, h2⟩
      refine ⟨⟨h1, fun t ht => h2 t (by omega)⟩, ?_⟩
      rcases h2 o (Nat.lt_succ_self _) with h | h | h
      · simp [h]
      · simp [h]
      · simp [h]

theorem befB_self {x : Cl} (cl : Bool) (h : okCl x = true) : befB cl x x = false := by
  have := (okCl_t h).2.2.2.2.2
  cases cl
  · simp [befB]; omega
  · simp [befB]

/-- Those that are left, so many. -/
def gone (l : List Cl) (ord : List Int) (s n : Nat) : Prop := s < 128 ∧ (mem7 s).length = n ∧ ∀ k, k ∈ mem7 s ↔ (k < l.length ∧ ¬ (k : Int) ∈ ord)
theorem mem7_sorted : ∀ n, n < 128 → (mem7 n).Pairwise (fun a b => a < b) := by decide +kernel
theorem mem7_two : ∀ m, m < 7 → ∀ i, i < 7 → ((2 ^ m).testBit i = decide (i = m)) := by decide +kernel
theorem gone_step {l : List Cl} {ord : List Int} {s n k m : Nat} (h : gone l ord s (n + 1)) (hk : (mem7 s)[k]? = some m) : gone l (ord ++ [(m : Int)]) (wo s (2 ^ m)) n := by
  obtain ⟨h1, h2, h3⟩ := h
  have hlt := (List.getElem?_eq_some_iff.1 hk).1
  have hm7 : m < 7 := (mem7_iff.1 (List.mem_of_getElem? hk)).1
  refine ⟨wo_lt h1, ?_, fun j => ?_⟩
  · have := mem7_wo s h1 k hlt
    rw [List.getD_eq_getElem?_getD, hk] at this
    simp only [Option.getD_some] at this
    rw [this, List.length_eraseIdx, if_pos hlt, h2]; rfl
  · rw [mem7_iff]
    have h3' := h3 j
    rw [mem7_iff] at h3'
    constructor
    · rintro ⟨hj, hb⟩
      rw [wo_bit hj, mem7_two m hm7 j hj, Bool.and_eq_true] at hb
      obtain ⟨g1, g2⟩ := h3'.1 ⟨hj, hb.1⟩
      refine ⟨g1, fun g => ?_⟩
      rcases List.mem_append.1 g with g | g
      · exact g2 g
      · have e : j = m := by have := List.mem_singleton.1 g; omega
        rw [e] at hb; simp at hb
    · rintro ⟨g1, g2⟩
      obtain ⟨hj, hb⟩ := h3'.2 ⟨g1, fun g => g2 (List.mem_append_left _ g)⟩
      refine ⟨hj, ?_⟩
      rw [wo_bit hj, mem7_two m hm7 j hj, hb]
      have e : j ≠ m := fun e => g2 (List.mem_append_right _ (by rw [e]; simp))
      simp [e]
theorem gone_mem {l : List Cl} {ord : List Int} {s n k m : Nat} (h : gone l ord s n) (hk : (mem7 s)[k]? = some m) : m < 7 ∧ m < l.length ∧ ¬ (m : Int) ∈ ord := by
  have hm := List.mem_of_getElem? hk
  exact ⟨(mem7_iff.1 hm).1, (h.2.2 m).1 hm⟩
theorem gone_before {l : List Cl} {ord : List Int} {s n k m j : Nat} (h : gone l ord s n) (hk : (mem7 s)[k]? = some m) (hj : j < m) (hj2 : j ∈ mem7 s) : j ∈ (mem7 s).take k := by
  obtain ⟨i, hi⟩ := List.getElem?_of_mem hj2
  obtain ⟨hil, hie⟩ := List.getElem?_eq_some_iff.1 hi
  obtain ⟨hkl, hke⟩ := List.getElem?_eq_some_iff.1 hk
  have hs := List.pairwise_iff_getElem.1 (mem7_sorted s h.1)
  have hik : i < k := by
    by_cases e : i < k
    · exact e
    · by_cases e2 : i = k
      · subst e2; omega
      · have := hs k i hkl hil (by omega); omega
  rw [List.mem_take_iff_getElem]
  exact ⟨i, by omega, hie⟩

/-- All that was tried so far is not found. -/
def tried (l : List Cl) (cl : Bool) (n : Nat) (ord : List Int) (s k : Nat) : Prop := ∀ j, j < l.length → ((j : Int) ∈ ord ∨ j ∈ (mem7 s).take k) → nxtL l cl n ord j = []
theorem tried_start {l : List Cl} {cl : Bool} {n : Nat} {ord : List Int} {s : Nat} : tried l cl n ord s 0 := fun j _ h => by
  rcases h with h | h
  · refine nxtL_f ?_
    cases g : freeTo l cl ord j l.length
    · rfl
    · exact absurd h (freeTo_iff.1 g).1
  · simp at h
theorem tried_next {l : List Cl} {cl : Bool} {n : Nat} {ord : List Int} {s k m : Nat} (h : tried l cl n ord s k) (hk : (mem7 s)[k]? = some m) (hm : nxtL l cl n ord m = []) : tried l cl n ord s (k + 1) := fun j hj hh => by
  rcases hh with hh | hh
  · exact h j hj (.inl hh)
  · rw [List.take_add_one, hk, List.mem_append] at hh
    rcases hh with hh | hh
    · exact h j hj (.inr hh)
    · simp at hh; rw [hh]; exact hm
theorem free_yes {l : List Cl} {cl : Bool} {ord : List Int} {s n m : Nat} (h : gone l ord s n) (hm : ¬ (m : Int) ∈ ord) (hb : ∀ t, t < (mem7 s).length → befB cl (clA l ((mem7 s).getD t 0)) (clA l m) = false) : freeTo l cl ord m l.length = true := by
  refine freeTo_iff.2 ⟨hm, fun t ht => ?_⟩
  by_cases e : (t : Int) ∈ ord
  · exact .inr (.inl e)
  · obtain ⟨i, hi⟩ := List.getElem?_of_mem ((h.2.2 t).2 ⟨ht, e⟩)
    have := hb i (List.getElem?_eq_some_iff.1 hi).1
    rw [List.getD_eq_getElem?_getD, hi] at this
    exact .inr (.inr this)
theorem free_no {l : List Cl} {cl : Bool} {ord : List Int} {s n m o j : Nat} (h : gone l ord s n) (hj : (mem7 s)[j]? = some o) (hok : okCl (clA l m) = true) (hb : befB cl (clA l o) (clA l m) = true) : freeTo l cl ord m l.length = false := by
  cases g : freeTo l cl ord m l.length
  · rfl
  · obtain ⟨-, ho, hno⟩ := gone_mem h hj
    rcases (freeTo_iff.1 g).2 o ho with e | e | e
    · rw [e, befB_self cl hok] at hb; cases hb
    · exact absurd e hno
    · rw [e] at hb; cases hb
theorem legB_some {l : List Cl} {ord vs : List Int} (h : lgTo l ord ord.length = some vs) : legB l ord = true := by unfold legB; rw [h]; rfl
theorem find_hit {l : List Cl} {cl : Bool} {n : Nat} {ord vs : List Int} {s k m : Nat} (hg : gone l ord s (n + 1)) (hlg : lgTo l ord ord.length = some vs) (hle : ord.length + (n + 1) = l.length) (ht : tried l cl n ord s k) (hk : (mem7 s)[k]? = some m) (hf : freeTo l cl ord m l.length = true) (hR : (findL l cl n (ord ++ [(m : Int)])).length = l.length) : findL l cl (n + 1) ord = findL l cl n (ord ++ [(m : Int)]) := by
  have hm := gone_mem hg hk
  rw [findL_go (legB_some hlg) (by omega), fstTo_hit hm.2.1 (fun j hj => ht j (by omega) ?_) (by rw [nxtL_t hf, hR]; omega), nxtL_t hf]
  by_cases e : (j : Int) ∈ ord
  · exact .inl e
  · exact .inr (gone_before hg hk hj ((hg.2.2 j).2 ⟨by omega, e⟩))
theorem find_none {l : List Cl} {cl : Bool} {n : Nat} {ord vs : List Int} {s : Nat} (hg : gone l ord s (n + 1)) (hlg : lgTo l ord ord.length = some vs) (hle : ord.length + (n + 1) = l.length) (ht : tried l cl n ord s (n + 1)) : findL l cl (n + 1) ord = [] := by
  rw [findL_go (legB_some hlg) (by omega)]
  refine fstTo_none fun j hj => ht j hj ?_
  by_cases e : (j : Int) ∈ ord
  · exact .inl e
  · refine .inr ?_
    rw [List.take_of_length_le (by rw [hg.2.1]; exact Nat.le_refl _)]
    exact (hg.2.2 j).2 ⟨hj, e⟩
theorem find_zero {l : List Cl} {cl : Bool} {ord vs : List Int} (hlg : lgTo l ord ord.length = some vs) (hle : ord.length + 0 = l.length) : findL l cl 0 ord = ord := findL_end (legB_some hlg) (by omega)

end Go.Proofs.YtmbfdonefpegeaaDoor
