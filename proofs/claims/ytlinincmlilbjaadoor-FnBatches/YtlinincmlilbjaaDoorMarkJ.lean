/-
  Good logs: spec.GoodLog and impl.GoodLog answer the same Bool, 'goodLog', at every list of batches that can be read.
  The marks that the laws put into what was answered: the contract of markText.
-/
import Derived.Test.YtlinincmlilbjaaDoorLogs2J
import Derived.Test.YtlinincmlilbjaaDoorStrs
import Derived.Laws.IdiomStrings
import Derived.Laws.Concat
namespace Go.Proofs.YtlinincmlilbjaaDoor
open Go.RowKit

def goodFrom : Option Bt → List Bt → Bool
  | _, [] => true
  | p, b :: r => b.good && followB p b && goodFrom (some b) r

def goodLog (bs : List Bt) : Bool := goodFrom none bs

def prevOf (bs : List Bt) (k : Nat) : Option Bt := (bs.take k).getLast?

theorem prevOf_succ {bs : List Bt} {k : Nat} {b : Bt} (h : bs[k]? = some b) : prevOf bs (k + 1) = some b := by
  rw [prevOf, takeBt_snoc h]; simp

theorem prevOf_zero (bs : List Bt) : prevOf bs 0 = none := by simp [prevOf]

theorem good_step {bs : List Bt} {k : Nat} {b : Bt} (h : bs[k]? = some b) (hg : b.good = true) (hf : followB (prevOf bs k) b = true) (e : goodFrom (prevOf bs k) (bs.drop k) = goodLog bs) : goodFrom (prevOf bs (k + 1)) (bs.drop (k + 1)) = goodLog bs := by
  rw [drop_cons h] at e
  rw [prevOf_succ h, ← e, goodFrom, hg, hf]; rfl

theorem good_stop {bs : List Bt} {k : Nat} {b : Bt} (h : bs[k]? = some b) (hg : b.good = false ∨ followB (prevOf bs k) b = false) (e : goodFrom (prevOf bs k) (bs.drop k) = goodLog bs) : goodLog bs = false := by
  rw [drop_cons h] at e
  rw [← e, goodFrom]
  rcases hg with hg | hg <;> simp [hg]

theorem Bats.take {w : World} {a : Option Addr} {bs : List Bt} (h : Bats w a bs) (k : Nat) : Bats w a (bs.take k) := fun i b hi => by
  refine h i b ?_
  rw [List.getElem?_take] at hi
  split at hi
  · exact hi
  · simp at hi

end Go.Proofs.YtlinincmlilbjaaDoor

namespace Go.Proofs.YtlinincmlilbjaaDoor
open Go.RowKit

/-- The decimal digits of m ahead of l. -/
def digitsTo (m : Nat) (l : List UInt8) : List UInt8 :=
  if h : m = 0 then l else digitsTo (m / 10) (UInt8.ofNat (48 + m % 10) :: l)
termination_by m
decreasing_by omega

theorem digitsTo_zero (l : List UInt8) : digitsTo 0 l = l := by rw [digitsTo]; simp
theorem digitsTo_pos {m : Nat} (h : 0 < m) (l : List UInt8) : digitsTo m l = digitsTo (m / 10) (UInt8.ofNat (48 + m % 10) :: l) := by
  rw [digitsTo, dif_neg (by omega)]

/-- The mark of k. -/
def markOf (k : Nat) : ByteArray := ⟨(109 :: digitsTo k []).toArray⟩

theorem mkStr_len (l : List UInt8) : (⟨l.toArray⟩ : ByteArray).size = l.length := by simp [ByteArray.size]

theorem mkStr_app (l k : List UInt8) : (⟨l.toArray⟩ : ByteArray) ++ ⟨k.toArray⟩ = ⟨(l ++ k).toArray⟩ := by
  apply Go.WideShapes.bytes_inj
  simp [ByteArray.data_append]

theorem digit_byte (m : Nat) : ((UInt8.ofNat (48 + m % 10)).toNat : Int) = 48 + ((m % 10 : Nat) : Int) := by
  rw [UInt8.toNat_ofNat']; omega

end Go.Proofs.YtlinincmlilbjaaDoor
