/-
  Groups that read, in plain mathematics: shares, good readers and groups, owners, what is left.
-/
import Derived.Test.YtgiekkipkgdjaaaRdg
import Derived.Test.YtgiekkipkgdjaaaEp
import Derived.Test.YtgiekkipkgdjaaaGnM
namespace Go.Proofs.Ytgiekkipkgdjaaa
open Go.RowKit

def rxA (l : List Rx) (i : Nat) : Rx := l.getD i ⟨false, 0, [], []⟩
theorem rxA_some {l : List Rx} {k : Nat} {z : Rx} (h : l[k]? = some z) : rxA l k = z := by simp [rxA, List.getD_eq_getElem?_getD, h]
theorem rxA_get {l : List Rx} {k : Nat} (h : k < l.length) : l[k]? = some (rxA l k) := by simp [rxA, List.getD_eq_getElem?_getD, List.getElem?_eq_getElem h]

/-- How many of the first k are in. -/
def manyTo (l : List Rx) : Nat → Nat
  | 0 => 0
  | k + 1 => manyTo l k + if (rxA l k).inn = true then 1 else 0
theorem manyTo_le (l : List Rx) : ∀ k, manyTo l k ≤ k
  | 0 => by simp [manyTo]
  | k + 1 => by
    have := manyTo_le l k
    rw [manyTo]
    split <;> omega

/-- The parts, of the first ones, that the one at this place among so many gets. -/
def shTo (m pl : Nat) : Nat → List Int
  | 0 => []
  | p + 1 => shTo m pl p ++ if 0 < m ∧ p % m = pl then [(p : Int)] else []
theorem shTo_len (m pl : Nat) : ∀ p, (shTo m pl p).length ≤ p
  | 0 => by simp [shTo]
  | p + 1 => by
    have := shTo_len m pl p
    rw [shTo, List.length_append]
    split <;> simp <;> omega
def shareL (g : Rg) (k : Nat) : List Int := shTo (manyTo g.rds g.rds.length) (manyTo g.rds k) g.ends.length
def sameB (a b : List Int) : Bool := hasL a b && decide (a.length = b.length)

def okRead (g : Rg) (x : Rx) (p : Nat) : Bool := inB (zA x.read p) 0 (zA g.ends p) && (x.share.contains (p : Int) || decide (zA x.read p = 0))
def readTo (g : Rg) (x : Rx) (k : Nat) : Prop := ∀ i, i < k → okRead g x i = true
instance (g : Rg) (x : Rx) (k : Nat) : Decidable (readTo g x k) := by unfold readTo; infer_instance
theorem readTo_succ {g : Rg} {x : Rx} {k : Nat} (h : readTo g x k) (hk : okRead g x k = true) : readTo g x (k + 1) := fun i hi => by
  rcases Nat.lt_or_eq_of_le (Nat.le_of_lt_succ hi) with h1 | rfl
  · exact h i h1
  · exact hk
def firstRx (g : Rg) (x : Rx) : Bool := inB x.gen 0 g.gen && (riseB x.share g.ends.length && (decide (x.read.length = g.ends.length) && (x.inn || (decide (x.gen = 0) && decide (x.share.length = 0)))))
def lastRx (g : Rg) (k : Nat) (x : Rx) : Bool := !x.inn || (!decide (x.gen = g.gen) || sameB x.share (shareL g k))
def okRx (g : Rg) (k : Nat) (x : Rx) : Bool := firstRx g x && (decide (readTo g x x.read.length) && lastRx g k x)
theorem okRx_1 {g : Rg} {k : Nat} {x : Rx} (h : firstRx g x = false) : okRx g k x = false := by simp [okRx, h]
theorem okRx_2 {g : Rg} {k : Nat} {x : Rx} {p : Nat} (hp : p < x.read.length) (h : okRead g x p = false) : okRx g k x = false := by
  have : ¬ readTo g x x.read.length := fun g2 => by have := g2 p hp; rw [h] at this; cases this
  simp [okRx, this]
theorem okRx_3 {g : Rg} {k : Nat} {x : Rx} (h1 : firstRx g x = true) (h2 : readTo g x x.read.length) : okRx g k x = lastRx g k x := by simp [okRx, h1, h2]

def headRg (g : Rg) : Bool := inB g.rds.length 1 5 && (inB g.ends.length 1 6 && (decide (g.com.length = g.ends.length) && inB g.gen 0 1000))
def okEnd (g : Rg) (p : Nat) : Bool := inB (zA g.ends p) 0 100 && inB (zA g.com p) 0 (zA g.ends p)
def endTo (g : Rg) (k : Nat) : Prop := ∀ i, i < k → okEnd g i = true
instance (g : Rg) (k : Nat) : Decidable (endTo g k) := by unfold endTo; infer_instance
theorem endTo_succ {g : Rg} {k : Nat} (h : endTo g k) (hk : okEnd g k = true) : endTo g (k + 1) := fun i hi => by
  rcases Nat.lt_or_eq_of_le (Nat.le_of_lt_succ hi) with h1 | rfl
  · exact h i h1
  · exact hk
def rdsTo (g : Rg) (k : Nat) : Prop := ∀ i, i < k → okRx g i (rxA g.rds i) = true
instance (g : Rg) (k : Nat) : Decidable (rdsTo g k) := by unfold rdsTo; infer_instance
theorem rdsTo_succ {g : Rg} {k : Nat} (h : rdsTo g k) (hk : okRx g k (rxA g.rds k) = true) : rdsTo g (k + 1) := fun i hi => by
  rcases Nat.lt_or_eq_of_le (Nat.le_of_lt_succ hi) with h1 | rfl
  · exact h i h1
  · exact hk
def goodRg (g : Rg) : Bool := headRg g && (decide (endTo g g.ends.length) && decide (rdsTo g g.rds.length))
theorem goodRg_1 {g : Rg} (h : headRg g = false) : goodRg g = false := by simp [goodRg, h]
theorem goodRg_2 {g : Rg} {p : Nat} (hp : p < g.ends.length) (h : okEnd g p = false) : goodRg g = false := by
  have : ¬ endTo g g.ends.length := fun g2 => by have := g2 p hp; rw [h] at this; cases this
  simp [goodRg, this]
theorem goodRg_3 {g : Rg} {k : Nat} (hk : k < g.rds.length) (h : okRx g k (rxA g.rds k) = false) : goodRg g = false := by
  have : ¬ rdsTo g g.rds.length := fun g2 => by have := g2 k hk; rw [h] at this; cases this
  simp [goodRg, this]
theorem goodRg_4 {g : Rg} (h1 : headRg g = true) (h2 : endTo g g.ends.length) (h3 : rdsTo g g.rds.length) : goodRg g = true := by simp [goodRg, h1, h2, h3]
theorem goodRg_is {g : Rg} (h : goodRg g = true) : 1 ≤ g.rds.length ∧ g.rds.length ≤ 5 ∧ 1 ≤ g.ends.length ∧ g.ends.length ≤ 6 ∧ g.com.length = g.ends.length ∧ ∀ p, p < g.ends.length → 0 ≤ zA g.com p ∧ zA g.com p ≤ zA g.ends p ∧ zA g.ends p ≤ 100 := by
  simp only [goodRg, headRg, Bool.and_eq_true, decide_eq_true_eq] at h
  have h1 := inB_t.1 h.1.1
  have h2 := inB_t.1 h.1.2.1
  refine ⟨by omega, by omega, by omega, by omega, h.1.2.2.1, fun p hp => ?_⟩
  have := h.2.1 p hp
  simp only [okEnd, Bool.and_eq_true] at this
  have a := inB_t.1 this.1
  have b := inB_t.1 this.2
  omega

/-- Whose a part is. -/
def ownsP (g : Rg) (z : Int) (x : Rx) : Bool := x.inn && (decide (x.gen = g.gen) && x.share.contains z)
def ownAt (g : Rg) (z : Int) : Option Nat := (List.range g.rds.length).find? fun k => ownsP g z (rxA g.rds k)
def ownB (g : Rg) (z : Int) : Bool := goodRg g && (thB g.ends.length z && (ownAt g z).isSome)
def ownN (g : Rg) (z : Int) : Int := if ownB g z = true then (((ownAt g z).getD 0 : Nat) : Int) else 0

/-- What is left of the first k parts. -/
def leftTo (g : Rg) : Nat → Int
  | 0 => 0
  | k + 1 => leftTo g k + (zA g.ends k - zA g.com k)
theorem leftTo_rg {g : Rg} (h : ∀ p, p < g.ends.length → 0 ≤ zA g.com p ∧ zA g.com p ≤ zA g.ends p ∧ zA g.ends p ≤ 100) : ∀ k, k ≤ g.ends.length → 0 ≤ leftTo g k ∧ leftTo g k ≤ 100 * (k : Int)
  | 0, _ => by simp [leftTo]
  | k + 1, hk => by
    have := leftTo_rg h k (by omega)
    have := h k (by omega)
    rw [leftTo]
    omega
def lftN (g : Rg) : Int := if goodRg g = true then leftTo g g.ends.length else 0

def shoB (g : Rg) (z : Int) : Bool := goodRg g && (thB g.rds.length z && (rxA g.rds z.toNat).inn)
def shoL (g : Rg) (z : Int) : List Int := if shoB g z = true then shareL g z.toNat else []
theorem shoL_len (g : Rg) (z : Int) : (shoL g z).length ≤ 1000000 := by
  unfold shoL
  split
  · rename_i h
    simp only [shoB, Bool.and_eq_true] at h
    have h2 := goodRg_is h.1
    have := shTo_len (manyTo g.rds g.rds.length) (manyTo g.rds z.toNat) g.ends.length
    unfold shareL
    omega
  · simp

end Go.Proofs.Ytgiekkipkgdjaaa
