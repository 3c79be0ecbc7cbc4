/-
  A file of a disk turned, the specification's side: the contracts of spec.SyncFile, spec.AppendTo, spec.l3Cut, spec.CutFile.
-/
import Derived.Test.YtopndglgbollfaaDoorDskOps
import Derived.RegionTactic
import Derived.Laws.Concat
namespace Go.Proofs.YtopndglgbollfaaDoor
open Go.RowKit

theorem FlTo.upd {h h' : Nat → Value} {fs : List Fl} {n i : Nat} {f' : Fl} (H : FlTo h fs n) (h0 : h' (i * 2) = .string f'.bytes) (h1 : h' (i * 2 + 1) = .int .i64 f'.syn) (hr : ∀ j, j ≠ i * 2 → j ≠ i * 2 + 1 → h' j = h j) : FlTo h' (fs.set i f') n := fun j b hj hb => by
  by_cases e : j = i
  · subst e
    have hlt := (List.getElem?_eq_some_iff.1 hb).1
    rw [List.length_set] at hlt
    rw [List.getElem?_set_self hlt] at hb
    simp only [Option.some.injEq] at hb
    subst hb
    exact ⟨h0, h1⟩
  · rw [List.getElem?_set_ne (fun h => e h.symm)] at hb
    rw [hr _ (by omega) (by omega), hr _ (by omega) (by omega)]
    exact H j b hj hb

theorem FlTo.of_fls {w : World} {g m : Nat} {t : TypeId} {h : Nat → Value} {fs : List Fl} (hF : Fls w (some ⟨g, 0, none⟩) fs) (hR : w.rowIs g t m h) (hm : fs.length * 2 ≤ m) : FlTo h fs fs.length := fun i b hi hb => by
  obtain ⟨k, o, e, h0, h1, -⟩ := hF i b hb
  simp only [Option.some.injEq, Addr.mk.injEq] at e
  obtain ⟨rfl, rfl, -⟩ := e
  rw [Nat.zero_add] at h0 h1
  rw [hR.cell (by omega)] at h0 h1
  exact ⟨by simpa using h0, by simpa using h1⟩

theorem RowF.form {w : World} {B : Nat} {a : Option Addr} {n : Nat} (h : RowF w B a n) (h0 : 0 < n) : ∃ g m f, a = some ⟨g, 0, none⟩ ∧ B ≤ g ∧ n * 2 ≤ m ∧ w.rowIs g 45 m f := by
  rcases h with h | h
  · omega
  · exact h

theorem set_sizes {fs : List Fl} {i : Nat} {f' : Fl} (hz : ∀ f, f ∈ fs → f.bytes.size ≤ maxLen) (h' : f'.bytes.size ≤ maxLen) : ∀ f, f ∈ fs.set i f' → f.bytes.size ≤ maxLen := fun f hf => by
  rcases List.mem_or_eq_of_mem_set hf with h | rfl
  · exact hz f h
  · exact h'

theorem row_end {u : World} {g m r : Nat} {t : TypeId} {h : Nat → Value} (hR : u.rowIs g t m h) (o : Obj) (hr : r ≠ g) (x : Value) : ((u.alloc o).setCell ⟨r, 0, none⟩ x).rowIs g t m h :=
  World.rowIs.setOther (hR.of_block (((Below.refl u.heap.size u).alloc (Nat.le_refl _) o).block g hR.lt)) (by simp; omega) x

theorem row_drew {u : World} {g m : Nat} {t : TypeId} {h : Nat → Value} (hR : u.rowIs g t m h) : u.drew.rowIs g t m h :=
  hR.of_block ((Below.refl u.heap.size u).drew.block _ hR.lt)

/-- What a row that was turned in one file reads as. -/
theorem fls_end {u : World} {g m B : Nat} {h' : Nat → Value} {fs : List Fl} {i : Nat} {f' : Fl} (hR : u.rowIs g 45 m h') (hB : B ≤ g) (hm : fs.length * 2 ≤ m) (hT : FlTo h' (fs.set i f') fs.length) (hz : ∀ f, f ∈ fs → f.bytes.size ≤ maxLen) (hz' : f'.bytes.size ≤ maxLen) :
    Fls u (some ⟨g, 0, none⟩) (fs.set i f') ∧ RowF u B (some ⟨g, 0, none⟩) (fs.set i f').length :=
  ⟨Fls.of_row hR (by rw [List.length_set]; exact hm) (by rw [List.length_set]; exact hT) (set_sizes hz hz'), .inr ⟨g, m, h', rfl, hB, by rw [List.length_set]; exact hm, hR⟩⟩

def syncF (f : Fl) : Option Fl := some ⟨f.bytes, f.bytes.size⟩

/-- What is answered: the files and whether. -/
def filesOf (o : Option (List Fl)) : List Fl := o.getD []

end Go.Proofs.YtopndglgbollfaaDoor
