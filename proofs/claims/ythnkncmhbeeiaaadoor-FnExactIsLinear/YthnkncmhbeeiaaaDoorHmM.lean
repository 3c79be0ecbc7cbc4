/-
  Places in plain mathematics: good places, loads, even places, moves.
-/
import Derived.Test.YthnkncmhbeeiaaaDoorInts
import Derived.Test.YthnkncmhbeeiaaaDoorEp
import Derived.Test.YthnkncmhbeeiaaaDoorGnM
namespace Go.Proofs.YthnkncmhbeeiaaaDoor
open Go.RowKit

def okHm (n h : Int) : Bool := decide (-1 ≤ h) && decide (h < n)
def plB (n : Int) (l : List Int) : Bool := l.all (okHm n) && (inB n 1 6 && decide (l.length ≤ 16))
theorem plB_f {n : Int} {l : List Int} (h : l.all (okHm n) = false) : plB n l = false := by simp [plB, h]
theorem plB_t {n : Int} {l : List Int} (h : l.all (okHm n) = true) : plB n l = (inB n 1 6 && decide (l.length ≤ 16)) := by simp [plB, h]
theorem plB_is {n : Int} {l : List Int} (h : plB n l = true) : 1 ≤ n ∧ n ≤ 6 ∧ l.length ≤ 16 ∧ ∀ z, z ∈ l → -1 ≤ z ∧ z < n := by
  simp only [plB, Bool.and_eq_true, decide_eq_true_eq, List.all_eq_true] at h
  have h2 := inB_t.1 h.2.1
  refine ⟨by omega, by omega, h.2.2, fun z hz => ?_⟩
  have := h.1 z hz
  simpa [okHm] using this

/-- How many of the first k have this home. -/
def cntTo (l : List Int) (h : Int) : Nat → Nat
  | 0 => 0
  | k + 1 => cntTo l h k + if zA l k = h then 1 else 0
theorem cntTo_le (l : List Int) (h : Int) : ∀ k, cntTo l h k ≤ k
  | 0 => by simp [cntTo]
  | k + 1 => by
    have := cntTo_le l h k
    rw [cntTo]
    split <;> omega
def loadL (n : Nat) (l : List Int) : List Int := (List.range n).map fun h : Nat => ((cntTo l (h : Int) l.length : Nat) : Int)
theorem loadL_len (n : Nat) (l : List Int) : (loadL n l).length = n := by simp [loadL]
theorem loadL_get {n : Nat} {l : List Int} {i : Nat} (h : i < n) : (loadL n l)[i]? = some ((cntTo l (i : Int) l.length : Nat) : Int) := by simp [loadL, h]
def lofL (n : Int) (l : List Int) : List Int := if plB n l = true then loadL n.toNat l else []
theorem lofL_len (n : Int) (l : List Int) : (lofL n l).length ≤ 1000000 := by
  unfold lofL
  split
  · rename_i h
    have := plB_is h
    rw [loadL_len]; omega
  · simp

/-- No load is more than one above another. -/
def evenL (ls : List Int) : Bool := ls.all fun a => ls.all fun b => decide (a ≤ b + 1)
def evA (n : Int) (l : List Int) : Bool := plB n l && (!l.contains (-1) && evenL (loadL n.toNat l))

/-- Where two lists of one length are unlike. -/
def mvTo (a b : List Int) : Nat → Nat
  | 0 => 0
  | k + 1 => mvTo a b k + if zA a k = zA b k then 0 else 1
theorem mvTo_le (a b : List Int) : ∀ k, mvTo a b k ≤ k
  | 0 => by simp [mvTo]
  | k + 1 => by
    have := mvTo_le a b k
    rw [mvTo]
    split <;> omega
def lowB (l : List Int) : Bool := l.all fun h => decide (-1 ≤ h)
def mvB (a b : List Int) : Bool := lowB a && (lowB b && decide (a.length = b.length))
def mvN (a b : List Int) : Int := if mvB a b = true then ((mvTo a b a.length : Nat) : Int) else 0
theorem mv_f {a b : List Int} (h : mvB a b = false) : mvN a b = 0 ∧ mvB a b = false := by simp [mvN, h]
theorem mv_t {a b : List Int} (h : mvB a b = true) : mvN a b = ((mvTo a b a.length : Nat) : Int) ∧ mvB a b = true := by simp [mvN, h]

end Go.Proofs.YthnkncmhbeeiaaaDoor
