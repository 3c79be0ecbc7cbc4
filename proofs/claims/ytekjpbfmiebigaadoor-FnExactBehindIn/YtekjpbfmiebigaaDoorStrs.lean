/-
  Slices of strings as a call reads them, and what the laws' small helpers on them do: the contracts of szStringS, eqStringS, toStringS. Conditions: every string is as long as Go lets it be at most.
-/
import Derived.Test.YtekjpbfmiebigaaDoorRows
import Derived.WalkKit
import Derived.WalkSpells
import Derived.WalkLawsBesides
import Derived.Deep.QuietTactic
import Derived.BigQuiet
import Derived.Deep.OwnRows
namespace Go.Proofs.YtekjpbfmiebigaaDoor
open Go.RowKit

/-- The slice value at 'a' reads as these strings in the world. -/
def Strs (w : World) (a : Option Addr) (ss : List ByteArray) : Prop :=
  ∀ i s, ss[i]? = some s → ∃ b off, a = some ⟨b, off, none⟩ ∧ w.cell? ⟨b, off + i, none⟩ = some (.string s) ∧ s.size ≤ maxLen

def total (ss : List ByteArray) : Nat := (ss.map ByteArray.size).sum

theorem total_snoc (l : List ByteArray) (s : ByteArray) : total (l ++ [s]) = total l + s.size := by simp [total]

theorem take_snoc {ss : List ByteArray} {k : Nat} {s : ByteArray} (h : ss[k]? = some s) : ss.take (k + 1) = ss.take k ++ [s] := by
  rw [List.take_add_one, h]; rfl

/-- What szStringS answers. -/
def szS (ss : List ByteArray) (left : Int) : Int :=
  if left - ss.length - total ss < 0 then -1 else left - ss.length - total ss

theorem getAt {ss : List ByteArray} {k : Nat} (h : k < ss.length) : ∃ s, ss[k]? = some s := ⟨_, List.getElem?_eq_getElem h⟩

theorem szS_neg {ss : List ByteArray} {left : Int} (k : Nat) (h : left - ss.length - total (ss.take k) < 0) : szS ss left = -1 := by
  have : total (ss.take k) ≤ total ss := by
    have e : total ss = total (ss.take k) + total (ss.drop k) := by
      simp only [total]
      rw [← List.sum_append_nat, ← List.map_append, List.take_append_drop]
    omega
  unfold szS; rw [if_pos (by omega)]

theorem szS_nonneg {ss : List ByteArray} {left : Int} (h : 0 ≤ left - ss.length - total ss) : szS ss left = left - ss.length - total ss := by
  unfold szS; rw [if_neg (by omega)]

theorem ret_int {k : IntKind} {a b : Int} (h : a = b) : Ending.returned (.int k a) = .returned (.int k b) := by rw [h]

theorem ret_bool {a b : Bool} (h : a = b) : Ending.returned (.bool a) = .returned (.bool b) := by rw [h]

theorem lt_of_cell {w : World} {b o : Nat} {v : Value} (h : w.cell? ⟨b, o, none⟩ = some v) : b < w.heap.size := World.block_lt_of_cell? _ _ h

theorem Strs.below {w w' : World} {a : Option Addr} {ss : List ByteArray} (h : Strs w a ss) (hb : Below w.heap.size w w') : Strs w' a ss := fun i s hi => by
  obtain ⟨b, off, e, hc, hz⟩ := h i s hi
  exact ⟨b, off, e, (hb.cell (p := ⟨b, off + i, none⟩) (lt_of_cell hc)).trans hc, hz⟩

theorem Strs.of_row {w : World} {b : Nat} {t : TypeId} {ss : List ByteArray} (h : w.rowIs b t ss.length (fun j => .string (ss.getD j ByteArray.empty))) (hz : ∀ s, s ∈ ss → s.size ≤ maxLen) : Strs w (some ⟨b, 0, none⟩) ss := fun i s hi => by
  obtain ⟨hlt, e⟩ := List.getElem?_eq_some_iff.1 hi
  refine ⟨b, 0, rfl, ?_, hz s (List.mem_of_getElem? hi)⟩
  have := h.cell hlt
  simp only [Nat.zero_add]
  rw [this]
  simp [hi]

theorem Strs.size {w : World} {a : Option Addr} {ss : List ByteArray} (h : Strs w a ss) : ∀ s, s ∈ ss → s.size ≤ maxLen := fun s hs => by
  obtain ⟨i, hi, e⟩ := List.mem_iff_getElem.1 hs
  obtain ⟨_, _, _, _, hz⟩ := h i s (by rw [List.getElem?_eq_getElem hi, e])
  exact hz

theorem Tryd.infoString : (Tryd.prog.info? 9).map (fun i => (i.zero, i.size, i.bytes)) = some (some (.string ByteArray.empty), 1, 16) := by kernel_rfl

def upTo (ss : List ByteArray) (k : Nat) (j : Nat) : Value := .string (if j < k then ss.getD j ByteArray.empty else ByteArray.empty)

theorem upTo_step {w : World} {b : Nat} {t : TypeId} {n : Nat} {ss : List ByteArray} {k : Nat} {s : ByteArray} (h : w.rowIs b t n (upTo ss k)) (hs : ss[k]? = some s) : (w.setCell ⟨b, k, none⟩ (.string s)).rowIs b t n (upTo ss (k + 1)) := by
  refine (h.set k (.string s)).congr fun j _ => ?_
  by_cases e : j = k
  · subst e; simp [upTo, hs]
  · have : (j < k + 1) = (j < k) := by simp only [eq_iff_iff]; omega
    simp [upTo, e, this]

end Go.Proofs.YtekjpbfmiebigaaDoor
