/-
  Marks in slices of strings: the contracts of markStringS, heldStringS, markBatch, heldBatch.
-/
import Derived.Test.YtlinincmlilbjaaDoorMarkJ
import Derived.Deep.RegionWith
namespace Go.Proofs.YtlinincmlilbjaaDoor
open Go.RowKit

/-- n marks from k on. -/
def markL (k n : Nat) : List ByteArray := (List.range n).map fun i => markOf (k + i)

theorem markL_length (k n : Nat) : (markL k n).length = n := by simp [markL]
theorem markL_get {k n i : Nat} (h : i < n) : (markL k n)[i]? = some (markOf (k + i)) := by simp [markL, h]

/-- Room for n strings at 'a', in a block from B on that may be written. -/
def RowAt (w : World) (B : Nat) (a : Option Addr) (n : Nat) : Prop :=
  n = 0 ∨ ∃ g m f, a = some ⟨g, 0, none⟩ ∧ B ≤ g ∧ n ≤ m ∧ w.rowIs g 9 m f

/-- The block where the slice's cells lie. -/
def InBlock (a : Option Addr) (n b : Nat) : Prop := 0 < n ∧ ∃ o s, a = some ⟨b, o, s⟩

theorem RowAt.of_block {w w' : World} {B : Nat} {a : Option Addr} {n : Nat} (h : RowAt w B a n) (hs : ∀ b, InBlock a n b → w'.heap[b]? = w.heap[b]?) : RowAt w' B a n := by
  rcases h with h | ⟨g, m, f, rfl, hg, hm, hR⟩
  · exact .inl h
  · by_cases h0 : n = 0
    · exact .inl h0
    · exact .inr ⟨g, m, f, rfl, hg, hm, hR.of_block (hs g ⟨by omega, 0, none, rfl⟩)⟩

theorem RowAt.lt {w : World} {B : Nat} {a : Option Addr} {n b : Nat} (h : RowAt w B a n) (hb : InBlock a n b) : B ≤ b ∧ b < w.heap.size := by
  obtain ⟨h0, o, s, e⟩ := hb
  rcases h with h | ⟨g, m, f, rfl, hg, hm, hR⟩
  · omega
  · simp only [Option.some.injEq, Addr.mk.injEq] at e
    have := hR.lt
    omega

theorem RowAt.below {w w' : World} {B : Nat} {a : Option Addr} {n : Nat} (h : RowAt w B a n) (hb : Below w.heap.size w w') : RowAt w' B a n :=
  h.of_block fun b hi => hb.block b (h.lt hi).2

theorem RowAt.mono {w : World} {B B' : Nat} {a : Option Addr} {n : Nat} (h : RowAt w B a n) (hb : B' ≤ B) : RowAt w B' a n := by
  rcases h with h | ⟨g, m, f, e, hg, r⟩
  · exact .inl h
  · exact .inr ⟨g, m, f, e, by omega, r⟩

theorem Strs.of_block {w w' : World} {a : Option Addr} {ss : List ByteArray} (h : Strs w a ss) (hs : ∀ b, InBlock a ss.length b → w'.heap[b]? = w.heap[b]?) : Strs w' a ss := fun i s hi => by
  obtain ⟨b, off, e, hc, hz⟩ := h i s hi
  have hlt := (List.getElem?_eq_some_iff.1 hi).1
  exact ⟨b, off, e, (World.cell?_of_block (a := ⟨b, off + i, none⟩) (hs b ⟨by omega, off, none, e⟩)).trans hc, hz⟩

end Go.Proofs.YtlinincmlilbjaaDoor
