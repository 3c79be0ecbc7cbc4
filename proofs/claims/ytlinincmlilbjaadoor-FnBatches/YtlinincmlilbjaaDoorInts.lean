/-
  Slices of ints as a call reads them, and what the laws' helpers on them do: the contracts of toIntS, eqIntS, markIntS, heldIntS.
-/
import Derived.Test.YtlinincmlilbjaaDoorStrs
import Derived.RegionTactic
namespace Go.Proofs.YtlinincmlilbjaaDoor
open Go.RowKit

/-- The slice value at 'a' reads as these numbers. -/
def Ints (w : World) (a : Option Addr) (zs : List Int) : Prop :=
  ∀ (i : Nat) (z : Int), zs[i]? = some z → ∃ b off, a = some ⟨b, off, none⟩ ∧ w.cell? ⟨b, off + i, none⟩ = some (.int .i64 z)

theorem Ints.below {w w' : World} {a : Option Addr} {zs : List Int} (h : Ints w a zs) (hb : Below w.heap.size w w') : Ints w' a zs := fun i z hi => by
  obtain ⟨b, off, e, hc⟩ := h i z hi
  exact ⟨b, off, e, (hb.cell (p := ⟨b, off + i, none⟩) (lt_of_cell hc)).trans hc⟩

theorem Ints.nil (w : World) (a : Option Addr) : Ints w a [] := fun i z hi => by simp at hi

theorem getInt {zs : List Int} {k : Nat} (h : k < zs.length) : ∃ z, zs[k]? = some z := ⟨_, List.getElem?_eq_getElem h⟩

theorem takeInt_snoc {zs : List Int} {k : Nat} {z : Int} (h : zs[k]? = some z) : zs.take (k + 1) = zs.take k ++ [z] := by
  rw [List.take_add_one, h]; rfl

/-- The block where the slice's cells lie. -/
def InI (a : Option Addr) (n b : Nat) : Prop := 0 < n ∧ ∃ o s, a = some ⟨b, o, s⟩

/-- Room for n numbers at 'a', in a block from B on that may be written. -/
def RowI (w : World) (B : Nat) (a : Option Addr) (n : Nat) : Prop :=
  n = 0 ∨ ∃ g m f, a = some ⟨g, 0, none⟩ ∧ B ≤ g ∧ n ≤ m ∧ w.rowIs g 3 m f

theorem RowI.of_block {w w' : World} {B : Nat} {a : Option Addr} {n : Nat} (h : RowI w B a n) (hs : ∀ b, InI a n b → w'.heap[b]? = w.heap[b]?) : RowI w' B a n := by
  rcases h with h | ⟨g, m, f, rfl, hg, hm, hR⟩
  · exact .inl h
  · by_cases h0 : n = 0
    · exact .inl h0
    · exact .inr ⟨g, m, f, rfl, hg, hm, hR.of_block (hs g ⟨by omega, 0, none, rfl⟩)⟩

theorem RowI.lt {w : World} {B : Nat} {a : Option Addr} {n b : Nat} (h : RowI w B a n) (hb : InI a n b) : B ≤ b ∧ b < w.heap.size := by
  obtain ⟨h0, o, s, e⟩ := hb
  rcases h with h | ⟨g, m, f, rfl, hg, hm, hR⟩
  · omega
  · simp only [Option.some.injEq, Addr.mk.injEq] at e
    have := hR.lt
    omega

theorem RowI.below {w w' : World} {B : Nat} {a : Option Addr} {n : Nat} (h : RowI w B a n) (hb : Below w.heap.size w w') : RowI w' B a n :=
  h.of_block fun b hi => hb.block b (h.lt hi).2

theorem RowI.mono {w : World} {B B' : Nat} {a : Option Addr} {n : Nat} (h : RowI w B a n) (hb : B' ≤ B) : RowI w B' a n := by
  rcases h with h | ⟨g, m, f, e, hg, r⟩
  · exact .inl h
  · exact .inr ⟨g, m, f, e, by omega, r⟩

theorem Ints.of_block {w w' : World} {a : Option Addr} {zs : List Int} (h : Ints w a zs) (hs : ∀ b, InI a zs.length b → w'.heap[b]? = w.heap[b]?) : Ints w' a zs := fun i z hi => by
  obtain ⟨b, off, e, hc⟩ := h i z hi
  have hlt := (List.getElem?_eq_some_iff.1 hi).1
  exact ⟨b, off, e, (World.cell?_of_block (a := ⟨b, off + i, none⟩) (hs b ⟨by omega, off, none, e⟩)).trans hc⟩

theorem Ints.lt {w : World} {a : Option Addr} {zs : List Int} (h : Ints w a zs) : ∀ b, InI a zs.length b → b < w.heap.size := fun b ⟨h0, o, s, e⟩ => by
  obtain ⟨z, hz⟩ := getInt (zs := zs) h0
  obtain ⟨k, o', e', hc⟩ := h 0 z hz
  rw [e'] at e
  simp only [Option.some.injEq, Addr.mk.injEq] at e
  have := lt_of_cell hc
  omega

theorem Ints.of_row {w : World} {b m : Nat} {t : TypeId} {f : Nat → Value} {zs : List Int} (h : w.rowIs b t m f) (hm : zs.length ≤ m) (hf : ∀ (i : Nat) (z : Int), zs[i]? = some z → f i = .int .i64 z) : Ints w (some ⟨b, 0, none⟩) zs := fun i z hi => by
  have hlt := (List.getElem?_eq_some_iff.1 hi).1
  refine ⟨b, 0, rfl, ?_⟩
  rw [Nat.zero_add, h.cell (by omega), hf i z hi]

theorem Tryd.infoInt : (Tryd.prog.info? 3).map (fun i => (i.zero, i.size, i.bytes)) = some (some (.int .i64 0), 1, 8) := by kernel_rfl

def upToI (zs : List Int) (k : Nat) (j : Nat) : Value := .int .i64 (if j < k then zs.getD j 0 else 0)

theorem upToI_step {w : World} {b : Nat} {t : TypeId} {n : Nat} {zs : List Int} {k : Nat} {z : Int} (h : w.rowIs b t n (upToI zs k)) (hs : zs[k]? = some z) : (w.setCell ⟨b, k, none⟩ (.int .i64 z)).rowIs b t n (upToI zs (k + 1)) := by
  refine (h.set k (.int .i64 z)).congr fun j _ => ?_
  by_cases e : j = k
  · subst e; simp [upToI, hs]
  · have : (j < k + 1) = (j < k) := by simp only [eq_iff_iff]; omega
    simp [upToI, e, this]

theorem upToI_full {zs : List Int} {i : Nat} {z : Int} (h : zs[i]? = some z) : upToI zs zs.length i = .int .i64 z := by
  have hlt := (List.getElem?_eq_some_iff.1 h).1
  unfold upToI
  rw [if_pos hlt, List.getD_eq_getElem?_getD, h]; rfl

/-- n marks from k on. -/
def markZ (k n : Nat) : List Int := (List.range n).map fun i => ((k + i : Nat) : Int)
theorem markZ_length (k n : Nat) : (markZ k n).length = n := by simp [markZ]
theorem markZ_get {k n i : Nat} (h : i < n) : (markZ k n)[i]? = some ((k + i : Nat) : Int) := by simp [markZ, h]

end Go.Proofs.YtlinincmlilbjaaDoor
