/-
  Marks in lists of batches once more: markBatchS over a list's rows alone.
-/
import Derived.Test.YteklkdnkfgfdiaaDoorMarkLog2
namespace Go.Proofs.YteklkdnkfgfdiaaDoor
open Go.RowKit

/-- The list's row and its batches' records' rows, from B on. -/
def LogRow (w : World) (B : Nat) (a : Option Addr) (qs : List Q) : Prop :=
  qs.length = 0 ∨ ∃ g m f, a = some ⟨g, 0, none⟩ ∧ B ≤ g ∧ qs.length * 5 ≤ m ∧ LgSt w B g m qs f

theorem LogRow.of_rd {w0 w : World} {a : Option Addr} {c : Nat} {qs : List Q} (h : RdSt w0 w (.slice a qs.length c) qs) : LogRow w w0.heap.size a qs := by
  by_cases h0 : qs.length = 0
  · exact .inl h0
  · exact .inr (lg_of_rd h (by omega))

theorem LogRow.lt {w : World} {B : Nat} {a : Option Addr} {qs : List Q} (h : LogRow w B a qs) {b : Nat} (hb : InLog a qs b) : B ≤ b ∧ b < w.heap.size := by
  rcases h with h | ⟨g, m, f, rfl, hg, hm, hL⟩
  · have e : qs = [] := List.eq_nil_of_length_eq_zero h
    subst e
    rcases hb with ⟨h0, -⟩ | ⟨i, q, hq, -⟩
    · simp at h0
    · simp at hq
  · rcases hb with ⟨-, o, s, e⟩ | ⟨i, q, hq, hk⟩
    · simp only [Option.some.injEq, Addr.mk.injEq] at e
      have := hL.row.lt
      omega
    · exact (hL.rcs i q hq).2.1.lt hk

theorem LogRow.of_block {w w' : World} {B : Nat} {a : Option Addr} {qs : List Q} (h : LogRow w B a qs) (hs : ∀ b, InLog a qs b → w'.heap[b]? = w.heap[b]?) : LogRow w' B a qs := by
  by_cases h0 : qs.length = 0
  · exact .inl h0
  obtain ⟨g, m, f, rfl, hg, hm, hL⟩ := h.resolve_left h0
  refine .inr ⟨g, m, f, rfl, hg, hm, hL.row.of_block (hs g (.inl ⟨by omega, 0, none, rfl⟩)), fun i q hq => ?_, hL.dis⟩
  obtain ⟨h1, h2, h3⟩ := hL.rcs i q hq
  exact ⟨h1, h2.of_block (fun b hb => hs b (.inr ⟨i, q, hq, hb⟩)), h3⟩

theorem LogRow.below {w w' : World} {B : Nat} {a : Option Addr} {qs : List Q} (h : LogRow w B a qs) (hb : Below w.heap.size w w') : LogRow w' B a qs :=
  h.of_block fun b hi => hb.block b (h.lt hi).2

/-- Batches that lie in a list's blocks stay where these stay. -/
theorem Bats.of_log {w w' : World} {a : Option Addr} {bs : List Bt} (h : Bats w a bs) (hs : ∀ b, b < w.heap.size → w'.heap[b]? = w.heap[b]?) : Bats w' a bs := fun i b hi => by
  obtain ⟨k, o, e, ra, rc, h0, h1, h2, h3, h4, hst, hl⟩ := h i b hi
  have lt := lt_of_cell h0
  have c : ∀ j, w'.cell? ⟨k, j, none⟩ = w.cell? ⟨k, j, none⟩ := fun j => World.cell?_of_block (a := ⟨k, j, none⟩) (hs k lt)
  refine ⟨k, o, e, ra, rc, (c _).trans h0, (c _).trans h1, (c _).trans h2, (c _).trans h3, (c _).trans h4, fun i s hi => ?_, hl⟩
  obtain ⟨b', off, e', hc, hz⟩ := hst i s hi
  exact ⟨b', off, e', (World.cell?_of_block (a := ⟨b', off + i, none⟩) (hs b' (lt_of_cell hc))).trans hc, hz⟩

end Go.Proofs.YteklkdnkfgfdiaaDoor
