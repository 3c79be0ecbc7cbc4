/-
  Drawn votes: spec.(*l1Cur).votes.
-/
import Derived.Test.YtdibddkhjefmlaaDoorFrD
namespace Go.Proofs.YtdibddkhjefmlaaDoor
open Go.RowKit

/-- A drawn list stays while blocks of the call's own turn, but for its own row. -/
theorem en_keep {w wr w' : World} {p : Nat} {a : Option Addr} {bs : List UInt8} {c z : Nat} {v : Value} {zs : List Int} (h : EnSt w wr p a bs c v zs z) (hp : p < w.heap.size) (hB : Below w.heap.size wr w') (hs : ∀ g, v.ownBlock = some g → w'.heap[g]? = wr.heap[g]?) : EnSt w w' p a bs c v zs z := by
  obtain ⟨z', h1, h2⟩ := h.cur
  refine ⟨?_, ⟨z', h1, ?_⟩, ⟨h.far.bel.trans (hB.mono (by omega)), fun b hb hne => (hB.block b hb).trans (h.far.blk b hb hne)⟩⟩
  · obtain ⟨k1, k2 | ⟨g, cap, cur, hv, hg, hh, r⟩⟩ := h.own
    · exact ⟨k1, .inl k2⟩
    · exact ⟨k1, .inr ⟨g, cap, cur, hv, hg, (hs g (by rw [hv]; rfl)).trans hh, r⟩⟩
  · have hb := hB.block p hp
    obtain ⟨s, hs2⟩ := h2.c2
    exact ⟨(World.cell?_of_block (a := ⟨p, 0, none⟩) hb).trans h2.c0, (World.cell?_of_block (a := ⟨p, 1, none⟩) hb).trans h2.c1, ⟨s, (World.cell?_of_block (a := ⟨p, 2, none⟩) hb).trans hs2⟩, fun i => (World.frozen?_of_block (a := ⟨p, i, none⟩) hb).trans (h2.f i), h2.by_.of_block (fun b hi => hB.block b (by have := h2.lo b hi; omega)), h2.lo, h2.sm⟩
/-- The boxes of the votes: the answer's, and the one that is filled. -/
structure VoB (wr : World) (B : Nat) (v : Value) (need : Int) : Prop where
  r0 : ∃ f, wr.rowIs B 77 2 f
  r1 : ∃ f, wr.rowIs (B + 1) 77 2 f ∧ f 0 = v ∧ f 1 = .int .i64 need
theorem VoB.of_block {wr w' : World} {B : Nat} {v : Value} {need : Int} (h : VoB wr B v need) (h0 : w'.heap[B]? = wr.heap[B]?) (h1 : w'.heap[B + 1]? = wr.heap[B + 1]?) : VoB w' B v need := by
  obtain ⟨⟨f, k0⟩, g, k1, k2, k3⟩ := h
  exact ⟨⟨f, k0.of_block h0⟩, g, k1.of_block h1, k2, k3⟩
theorem VoB.lt {wr : World} {B : Nat} {v : Value} {need : Int} (h : VoB wr B v need) : B + 1 < wr.heap.size := by
  obtain ⟨-, g, k1, -⟩ := h
  exact k1.lt
theorem VoB.far {wr w' : World} {B p : Nat} {v : Value} {need : Int} (h : VoB wr B v need) (hf : Far p wr w') (hp : p < B) : VoB w' B v need := by
  have := h.lt
  exact h.of_block (hf.blk _ (by omega) (by omega)) (hf.blk _ (by omega) (by omega))
theorem VoB.below {wr w' : World} {B : Nat} {v : Value} {need : Int} (h : VoB wr B v need) (hb : Below wr.heap.size wr w') : VoB w' B v need := by
  have := h.lt
  exact h.of_block (hb.block _ (by omega)) (hb.block _ (by omega))
theorem VoB.c0 {wr : World} {B : Nat} {v : Value} {need : Int} (h : VoB wr B v need) : wr.cell? ⟨B + 1, 0, none⟩ = some v := by
  obtain ⟨-, g, k1, k2, -⟩ := h
  rw [k1.cell (by omega), k2]
theorem VoB.c1 {wr : World} {B : Nat} {v : Value} {need : Int} (h : VoB wr B v need) : wr.cell? ⟨B + 1, 1, none⟩ = some (.int .i64 need) := by
  obtain ⟨-, g, k1, -, k3⟩ := h
  rw [k1.cell (by omega), k3]
theorem VoB.fr {wr : World} {B : Nat} {v : Value} {need : Int} (h : VoB wr B v need) (i : Nat) : wr.frozen? ⟨B + 1, i, none⟩ = false ∧ wr.frozen? ⟨B, i, none⟩ = false := by
  obtain ⟨⟨f, k0⟩, g, k1, -⟩ := h
  exact ⟨k1.frozen i, k0.frozen i⟩
theorem VoB.set0 {wr : World} {B : Nat} {v : Value} {need : Int} (h : VoB wr B v need) (v' : Value) : VoB (wr.setCell ⟨B + 1, 0, none⟩ v') B v' need := by
  obtain ⟨⟨f, k0⟩, g, k1, k2, k3⟩ := h
  exact ⟨⟨f, k0.of_block (Below.heap_setCell _ ⟨B + 1, _, none⟩ _ B (by simp))⟩, _, k1.set 0 _, by simp, by simp [k3]⟩
theorem VoB.set1 {wr : World} {B : Nat} {v : Value} {need : Int} (h : VoB wr B v need) (n' : Int) : VoB (wr.setCell ⟨B + 1, 1, none⟩ (.int .i64 n')) B v n' := by
  obtain ⟨⟨f, k0⟩, g, k1, k2, k3⟩ := h
  exact ⟨⟨f, k0.of_block (Below.heap_setCell _ ⟨B + 1, _, none⟩ _ B (by simp))⟩, _, k1.set 1 _, by simp [k2], by simp⟩
/-- The row of numbers is none of the boxes. -/
theorem VoB.ne {wr : World} {B B' : Nat} {v : Value} {need : Int} {u : Value} {n : Nat} {xs : List Value} (h : VoB wr B v need) (ho : wr.ownsRow B' 3 1 u n xs) : u.ownBlock ≠ some B ∧ u.ownBlock ≠ some (B + 1) := by
  obtain ⟨⟨f, cs0, k0, -⟩, g, ⟨cs1, k1, -⟩, -⟩ := h
  obtain ⟨-, ⟨rfl, -⟩ | ⟨g, cap, cur, rfl, -, hh, -⟩⟩ := ho
  · simp [Value.ownBlock]
  · constructor
    all_goals
      intro e
      simp only [Value.ownBlock, Option.some.injEq] at e
      subst e
    · rw [hh] at k0; simp at k0
    · rw [hh] at k1; simp at k1
theorem VoB.b0 {wr : World} {B : Nat} {v : Value} {need : Int} (h : VoB wr B v need) : ∃ x y, wr.cell? ⟨B, 0, none⟩ = some x ∧ wr.cell? ⟨B, 1, none⟩ = some y := by
  obtain ⟨⟨f, k0⟩, -⟩ := h
  exact ⟨_, _, k0.cell (by omega), k0.cell (by omega)⟩
/-- The answer's box is written. -/
theorem VoB.put {wr : World} {B : Nat} {v : Value} {need : Int} (h : VoB wr B v need) (x y : Value) : VoB ((wr.setCell ⟨B, 0, none⟩ x).setCell ⟨B, 1, none⟩ y) B v need := by
  obtain ⟨⟨f, k0⟩, g, k1, k2, k3⟩ := h
  exact ⟨⟨_, (k0.set 0 _).set 1 _⟩, g, (k1.of_block (Below.heap_setCell _ ⟨B, _, none⟩ _ (B + 1) (by simp))).of_block (Below.heap_setCell _ ⟨B, _, none⟩ _ (B + 1) (by simp)), k2, k3⟩

end Go.Proofs.YtdibddkhjefmlaaDoor
