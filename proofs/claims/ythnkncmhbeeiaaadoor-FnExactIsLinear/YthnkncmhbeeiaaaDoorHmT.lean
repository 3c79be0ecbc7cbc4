/-
  Lists of numbers that are sorted in place by insertion: plain mathematics; and slices.Sort of a few numbers (the library's own text, its first branch).
-/
import Derived.Test.YthnkncmhbeeiaaaDoorHmQ0
import Derived.CellFam
import Derived.Deep.Draws
import Derived.Deep.QuietTactic
import Derived.BigQuiet
import Derived.BigGuard
import Derived.BigCall
namespace Go.Proofs.YthnkncmhbeeiaaaDoor
open Go.RowKit

/-- The first i of l are sorted, the others as they were. -/
def InsO (R : Int → Int → Prop) (l : List Int) (i : Nat) (L : List Int) : Prop := ∃ S, L = S ++ l.drop i ∧ S.Perm (l.take i) ∧ S.Pairwise R
/-- The one at i is on its way down, it stands at j. -/
def InsS (R : Int → Int → Prop) (l : List Int) (i j : Nat) (L : List Int) : Prop := ∃ P M, L = P ++ zA l i :: (M ++ l.drop (i + 1)) ∧ P.length = j ∧ (P ++ M).Perm (l.take i) ∧ (P ++ M).Pairwise R ∧ ∀ y ∈ M, R (zA l i) y
theorem zA_app_right {P Q : List Int} {k : Nat} : zA (P ++ Q) (P.length + k) = zA Q k := by
  unfold zA
  rw [List.getD_eq_getElem?_getD, List.getD_eq_getElem?_getD, List.getElem?_append_right (by omega)]
  congr 2; omega
theorem drop_cons {l : List Int} {i : Nat} (h : i < l.length) : l.drop i = zA l i :: l.drop (i + 1) := by
  rw [List.drop_eq_getElem_cons h]
  congr 1
  simp [zA, List.getD_eq_getElem?_getD, h]
theorem take_snocZ {l : List Int} {i : Nat} (h : i < l.length) : l.take (i + 1) = l.take i ++ [zA l i] := by
  rw [List.take_add_one, zA_get h]; rfl
theorem InsO.start {R : Int → Int → Prop} (l : List Int) : InsO R l 1 l := ⟨l.take 1, (List.take_append_drop 1 l).symm, List.Perm.refl _, by
  cases l with
  | nil => simp
  | cons a t => simp⟩
theorem InsO.down {R : Int → Int → Prop} {l L : List Int} {i : Nat} (h : InsO R l i L) (hi : i < l.length) : InsS R l i i L := by
  obtain ⟨S, h1, h2, h3⟩ := h
  refine ⟨S, [], by rw [h1, drop_cons hi]; rfl, ?_, by simpa using h2, by simpa using h3, by simp⟩
  have := h2.length_eq
  rw [List.length_take] at this
  omega
theorem InsS.at {R : Int → Int → Prop} {l L : List Int} {i j : Nat} (h : InsS R l i j L) : zA L j = zA l i := by
  obtain ⟨P, M, rfl, rfl, -⟩ := h
  have := zA_app_right (P := P) (Q := zA l i :: (M ++ l.drop (i + 1))) (k := 0)
  exact this.trans rfl
theorem snoc_of {P : List Int} (h : 0 < P.length) : ∃ Q y, P = Q ++ [y] := ⟨P.dropLast, P.getLast (by intro e; rw [e] at h; simp at h), (List.dropLast_concat_getLast _).symm⟩
theorem InsS.go {R : Int → Int → Prop} {l L : List Int} {i j : Nat} (h : InsS R l i j L) (hj : 0 < j) (hr : R (zA L j) (zA L (j - 1))) : InsS R l i (j - 1) ((L.set j (zA L (j - 1))).set (j - 1) (zA L j)) := by
  have hat := h.at
  rw [hat] at hr ⊢
  obtain ⟨P, M, rfl, rfl, h3, h4, h5⟩ := h
  obtain ⟨Q, y, rfl⟩ := snoc_of hj
  have hy : zA (Q ++ [y] ++ zA l i :: (M ++ l.drop (i + 1))) ((Q ++ [y]).length - 1) = y := by
    rw [List.append_assoc]
    have := zA_app_right (P := Q) (Q := [y] ++ zA l i :: (M ++ l.drop (i + 1))) (k := 0)
    rw [show (Q ++ [y]).length - 1 = Q.length + 0 by simp, this]; rfl
  rw [hy] at hr ⊢
  refine ⟨Q, y :: M, ?_, by simp, by simpa using h3, by simpa using h4, fun z hz => ?_⟩
  · rw [show (Q ++ [y]).length - 1 = Q.length by simp, show (Q ++ [y]).length = Q.length + 1 by simp, List.append_assoc]
    rw [List.set_append_right _ _ (by omega), List.set_append_right _ _ (by omega)]
    simp
  · rcases List.mem_cons.1 hz with e | e
    · rw [e]; exact hr
    · exact h5 z e
theorem InsS.stop {R : Int → Int → Prop} {l L : List Int} {i j : Nat} (h : InsS R l i j L) (hi : i < l.length) (ht : ∀ a b c, R a b → R b c → R a c) (hr : 0 < j → R (zA L (j - 1)) (zA l i)) : InsO R l (i + 1) L := by
  obtain ⟨P, M, rfl, rfl, h3, h4, h5⟩ := h
  have hP : ∀ p ∈ P, R p (zA l i) := fun p hp => by
    have hl : 0 < P.length := List.length_pos_of_mem hp
    obtain ⟨Q, y, rfl⟩ := snoc_of hl
    have hy : zA (Q ++ [y] ++ zA l i :: (M ++ l.drop (i + 1))) ((Q ++ [y]).length - 1) = y := by
      rw [List.append_assoc]
      have := zA_app_right (P := Q) (Q := [y] ++ zA l i :: (M ++ l.drop (i + 1))) (k := 0)
      rw [show (Q ++ [y]).length - 1 = Q.length + 0 by simp, this]; rfl
    have hyx := hr hl
    rw [hy] at hyx
    rcases List.mem_append.1 hp with e | e
    · refine ht p y _ ?_ hyx
      rw [List.append_assoc] at h4
      exact (List.pairwise_append.1 h4).2.2 p e y (by simp)
    · rw [List.mem_singleton.1 e]; exact hyx
  refine ⟨P ++ zA l i :: M, by simp, ?_, ?_⟩
  · rw [take_snocZ hi]
    refine List.perm_middle.trans ?_
    exact (List.Perm.cons _ h3).trans (List.perm_append_singleton _ _).symm
  · rw [List.pairwise_append] at h4 ⊢
    refine ⟨h4.1, List.pairwise_cons.2 ⟨h5, h4.2.1⟩, fun p hp q hq => ?_⟩
    rcases List.mem_cons.1 hq with e | e
    · rw [e]; exact hP p hp
    · exact h4.2.2 p hp q e
theorem InsO.done {R : Int → Int → Prop} {l L : List Int} {i : Nat} (h : InsO R l i L) (hi : l.length ≤ i) : L.Perm l ∧ L.Pairwise R := by
  obtain ⟨S, rfl, h2, h3⟩ := h
  rw [List.drop_eq_nil_of_le hi, List.append_nil]
  rw [List.take_of_length_le hi] at h2
  exact ⟨h2, h3⟩
theorem InsO.len {R : Int → Int → Prop} {l L : List Int} {i : Nat} (h : InsO R l i L) : L.length = l.length := by
  obtain ⟨S, rfl, h2, -⟩ := h
  have := h2.length_eq
  rw [List.length_append, this, List.length_take, List.length_drop]; omega
theorem InsS.len {R : Int → Int → Prop} {l L : List Int} {i j : Nat} (h : InsS R l i j L) (hi : i < l.length) : L.length = l.length ∧ j ≤ i := by
  obtain ⟨P, M, rfl, rfl, h2, -⟩ := h
  have := h2.length_eq
  rw [List.length_append, List.length_take] at this
  simp only [List.length_append, List.length_cons, List.length_drop]
  omega
theorem InsS.mem {R : Int → Int → Prop} {l L : List Int} {i j : Nat} (h : InsS R l i j L) (hj : 0 < j) : zA L (j - 1) ∈ l.take i := by
  obtain ⟨P, M, rfl, rfl, h2, -⟩ := h
  obtain ⟨Q, y, rfl⟩ := snoc_of hj
  have hy : zA (Q ++ [y] ++ zA l i :: (M ++ l.drop (i + 1))) ((Q ++ [y]).length - 1) = y := by
    rw [List.append_assoc]
    have := zA_app_right (P := Q) (Q := [y] ++ zA l i :: (M ++ l.drop (i + 1))) (k := 0)
    rw [show (Q ++ [y]).length - 1 = Q.length + 0 by simp, this]; rfl
  rw [hy]
  exact h2.mem_iff.1 (by simp)

/-- What stands in a row is written, all else as it was. -/
theorem grew_refl (w : World) (g : Option Nat) : w.grownBy w g := World.grownBy.refl w g
theorem grew_set {w u : World} {g : Nat} (h : w.grownBy u (some g)) (i : Nat) (v : Value) : w.grownBy (u.setCell ⟨g, i, none⟩ v) (some g) := by
  have hb := (Below.refl 0 u).setCell (p := ⟨g, i, none⟩) (Nat.zero_le _) v
  refine ⟨by rw [hb.os, h.os], by rw [hb.tape, h.tape], by rw [hb.output, h.output], Nat.le_trans h.size hb.size, fun k hk hn => ?_⟩
  rw [Below.heap_setCell _ _ _ _ (fun e => hn (by rw [e])), h.block k hk hn]
theorem grew_drew {w u : World} {g : Option Nat} (h : w.grownBy u g) (n : Nat) : w.grownBy (u.drewN n) g := by
  have hb := below_drewN (Below.refl u.heap.size u) n
  refine ⟨by rw [hb.os, h.os], by rw [hb.tape, h.tape], by rw [hb.output, h.output], Nat.le_trans h.size hb.size, fun k hk hn => ?_⟩
  rw [hb.block k (Nat.lt_of_lt_of_le hk h.size), h.block k hk hn]
theorem IR.drewN {w : World} {R m : Nat} {l : List Int} (h : IR w R m l) (n : Nat) : IR (w.drewN n) R m l := h.below (below_drewN (Below.refl _ _) n)

end Go.Proofs.YthnkncmhbeeiaaaDoor
