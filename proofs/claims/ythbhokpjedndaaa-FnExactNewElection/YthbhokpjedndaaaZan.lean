/-
  Numbers that a call gathers, one by one, and hands out in memory of its own.
-/
import Derived.Test.YthbhokpjedndaaaZCell
import Derived.Test.YthbhokpjedndaaaEp
namespace Go.Proofs.Ythbhokpjedndaaa
open Go.RowKit

/-- While numbers are gathered. -/
structure ZSt (B : Nat) (w wr : World) (v : Value) (zs : List Int) : Prop where
  own : wr.ownsRow B 3 1 v zs.length (zCells zs)
  bel : Below w.heap.size w wr

theorem zst_below {B : Nat} {w wr u : World} {v : Value} {zs : List Int} (h : ZSt B w wr v zs) (hb : Below wr.heap.size wr u) : ZSt B w u v zs :=
  ⟨ownsZ_below h.own hb, h.bel.trans (hb.mono h.bel.size)⟩

theorem zst_step {B : Nat} {w u w6 : World} {v : Value} {zs : List Int} {q : Int} {g2 cap2 : Nat} (h : ZSt B w u v zs) (hB : w.heap.size ≤ B)
    (hgrow : u.grownBy w6 v.ownBlock) (hown : w6.ownsRow B 3 1 (.slice (some ⟨g2, 0, none⟩) (zs.length + 1) cap2) (zs.length + 1) (zCells zs ++ zCells [q])) :
    ZSt B w w6 (.slice (some ⟨g2, 0, none⟩) (zs.length + 1) cap2) (zs ++ [q]) := by
  refine ⟨?_, h.bel.grown hgrow (by have := h.bel.size; omega) (fun k hk => Nat.le_trans hB (h.own.lt k hk).1)⟩
  rw [zCells_app, List.length_append, List.length_singleton]
  exact hown

/-- What a function answers that gathers numbers. -/
def ZAns (w : World) (zs : List Int) (r : Ending) (w' : World) : Prop :=
  ∃ a c, r = .returned (.slice a zs.length c) ∧ zs.length ≤ c ∧ c ≤ maxLen ∧ w'.ownsRow w.heap.size 3 1 (.slice a zs.length c) zs.length (zCells zs) ∧ Below w.heap.size w w'

theorem ownsZ_cap {w : World} {B : Nat} {e : TypeId} {size : Nat} {v : Value} {n : Nat} {xs : List Value} (h : w.ownsRow B e size v n xs) : ∃ a cap, v = .slice a n cap ∧ n ≤ cap ∧ cap ≤ maxLen := by
  obtain ⟨-, ⟨rfl, rfl⟩ | ⟨g, cap, cur, rfl, -, -, hc, hm, -⟩⟩ := h
  · exact ⟨none, 0, rfl, Nat.le_refl _, by unfold maxLen; omega⟩
  · exact ⟨_, cap, rfl, hc, hm⟩

theorem zans_of {w wr : World} {v : Value} {zs : List Int} (h : ZSt w.heap.size w wr v zs) : ZAns w zs (.returned v) wr := by
  obtain ⟨a, c, rfl, h1, h2⟩ := ownsZ_cap h.own
  exact ⟨a, c, rfl, h1, h2, h.own, h.bel⟩

theorem ZAns.ints {w : World} {zs : List Int} {r : Ending} {w' : World} (h : ZAns w zs r w') : ∃ a c, r = .returned (.slice a zs.length c) ∧ zs.length ≤ c ∧ c ≤ maxLen ∧ Ints w' a zs ∧ RowI w' w.heap.size a zs.length ∧ Below w.heap.size w w' := by
  obtain ⟨a, c, h1, h2, h3, h4, h5⟩ := h
  exact ⟨a, c, h1, h2, h3, (ints_of_owns h4).1, (ints_of_owns h4).2, h5⟩

end Go.Proofs.Ythbhokpjedndaaa
