/-
  A batch's bytes, the program's side: what impl.BatchBytes answers where the table holds its numbers.
-/
import Derived.Test.YtopndglgbollfaaDoorEnc2
import Derived.Lib.AppendStr
namespace Go.Proofs.YtopndglgbollfaaDoor
open Go.RowKit

theorem strCells_eq (s : ByteArray) : Lib.strCells s = byteVals s.data.toList := by simp [Lib.strCells, byteVals]

theorem TabAt.below {w w' : World} {B : Nat} (h : TabAt w) (hb : Below B w w') (hB : 0 < B) : TabAt w' := fun i hi => (hb.cell (p := ⟨0, i, none⟩) hB).trans (h i hi)

theorem Strs.belowB {w w' : World} {B : Nat} {a : Option Addr} {ss : List ByteArray} (h : Strs w a ss) (hb : Below B w w') (hB : w.heap.size ≤ B) : Strs w' a ss := h.below (hb.mono hB)

theorem recLen_le (ss : List ByteArray) (h : ∀ s, s ∈ ss → s.size ≤ 20) : recLen ss ≤ 21 * ss.length := by
  induction ss with
  | nil => simp [recLen, recBytes]
  | cons s r ih =>
    have h1 := h s (by simp)
    have h2 := ih (fun t ht => h t (by simp [ht]))
    have h3 : recLen (s :: r) = (1 + s.size) + recLen r := by
      simp only [recLen, recBytes, List.flatMap_cons, List.length_append, be_length]
      rfl
    simp only [List.length_cons]
    omega

theorem bodyOf_length (o e p q : Nat) (ss : List ByteArray) : (bodyOf o e p q ss).length = 10 + recLen ss := by
  simp only [bodyOf, List.length_append, be_length, recLen]

end Go.Proofs.YtopndglgbollfaaDoor
