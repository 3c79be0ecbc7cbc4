/-
  Histories in plain mathematics: good calls, orders, which are legal, which respect time, overlaps, calls on an object, and the least order that is found.
-/
import Derived.Test.YtmbfdonefpegeaaDoorCll
import Derived.Test.YtmbfdonefpegeaaDoorGnM
namespace Go.Proofs.YtmbfdonefpegeaaDoor
open Go.RowKit

def clA (l : List Cl) (i : Nat) : Cl := l.getD i ⟨0, 0, false, 0, 0, 0⟩
theorem clA_some {l : List Cl} {k : Nat} {z : Cl} (h : l[k]? = some z) : clA l k = z := by simp [clA, List.getD_eq_getElem?_getD, h]
theorem clA_get {l : List Cl} {k : Nat} (h : k < l.length) : l[k]? = some (clA l k) := by simp [clA, List.getD_eq_getElem?_getD, List.getElem?_eq_getElem h]

/-- One call by itself. -/
def okCl (x : Cl) : Bool := inB x.client 0 3 && (inB x.object 0 2 && (inB x.value 0 9 && ((!x.write || decide (0 < x.value)) && (inB x.beg 0 100 && (inB x.fin 0 100 && decide (x.beg < x.fin))))))
/-- Two of one client that overlap. -/
def clash (o x : Cl) : Bool := decide (o.client = x.client) && (decide (x.beg < o.fin) && decide (o.beg < x.fin))
def clOk (l : List Cl) (i : Nat) : Prop := okCl (clA l i) = true ∧ ∀ j, j < i → clash (clA l j) (clA l i) = false
instance (l : List Cl) (i : Nat) : Decidable (clOk l i) := by unfold clOk; infer_instance
def clTo (l : List Cl) (k : Nat) : Prop := ∀ i, i < k → clOk l i
instance (l : List Cl) (k : Nat) : Decidable (clTo l k) := by unfold clTo; infer_instance
def goodCl (l : List Cl) : Bool := decide (clTo l l.length) && decide (l.length ≤ 7)
theorem clTo_succ {l : List Cl} {k : Nat} (h : clTo l k) (hk : clOk l k) : clTo l (k + 1) := fun i hi => by
  rcases Nat.lt_or_eq_of_le (Nat.le_of_lt_succ hi) with h1 | rfl
  · exact h i h1
  · exact hk
theorem goodCl_bad {l : List Cl} {k : Nat} (hk : k < l.length) (h : ¬ clOk l k) : goodCl l = false := by
  have : ¬ clTo l l.length := fun g => h (g k hk)
  simp [goodCl, this]
theorem goodCl_done {l : List Cl} (h : clTo l l.length) : goodCl l = decide (l.length ≤ 7) := by simp [goodCl, h]
theorem goodCl_t {l : List Cl} (h : goodCl l = true) : clTo l l.length ∧ l.length ≤ 7 := by simpa [goodCl] using h
theorem okCl_t {x : Cl} (h : okCl x = true) : (0 ≤ x.client ∧ x.client ≤ 3) ∧ (0 ≤ x.object ∧ x.object ≤ 2) ∧ (0 ≤ x.value ∧ x.value ≤ 9) ∧ (0 ≤ x.beg ∧ x.beg ≤ 100) ∧ (0 ≤ x.fin ∧ x.fin ≤ 100) ∧ x.beg < x.fin := by
  simp only [okCl, Bool.and_eq_true, decide_eq_true_eq] at h
  exact ⟨inB_t.1 h.1, inB_t.1 h.2.1, inB_t.1 h.2.2.1, inB_t.1 h.2.2.2.2.1, inB_t.1 h.2.2.2.2.2.1, h.2.2.2.2.2.2⟩

/-- An order has each number below n once. -/
def orOk (n : Nat) (zs : List Int) (i : Nat) : Prop := (0 ≤ zA zs i ∧ zA zs i < n) ∧ (zs.take i).contains (zA zs i) = false
instance (n : Nat) (zs : List Int) (i : Nat) : Decidable (orOk n zs i) := by unfold orOk; infer_instance
def odTo (n : Nat) (zs : List Int) (k : Nat) : Prop := ∀ i, i < k → orOk n zs i
instance (n : Nat) (zs : List Int) (k : Nat) : Decidable (odTo n zs k) := by unfold odTo; infer_instance
def ordB (n : Nat) (zs : List Int) : Bool := decide (odTo n zs zs.length) && decide (zs.length = n)
theorem odTo_succ {n : Nat} {zs : List Int} {k : Nat} (h : odTo n zs k) (hk : orOk n zs k) : odTo n zs (k + 1) := fun i hi => by
  rcases Nat.lt_or_eq_of_le (Nat.le_of_lt_succ hi) with h1 | rfl
  · exact h i h1
  · exact hk
theorem ordB_bad {n : Nat} {zs : List Int} {k : Nat} (hk : k < zs.length) (h : ¬ orOk n zs k) : ordB n zs = false := by
  have : ¬ odTo n zs zs.length := fun g => h (g k hk)
  simp [ordB, this]
theorem ordB_done {n : Nat} {zs : List Int} (h : odTo n zs zs.length) : ordB n zs = decide (zs.length = n) := by simp [ordB, h]
theorem ordB_t {n : Nat} {zs : List Int} (h : ordB n zs = true) : odTo n zs zs.length ∧ zs.length = n := by simpa [ordB] using h

/-- What the objects hold behind one call; none where it is a read of something else. -/
def lgS (vs : List Int) (x : Cl) : Option (List Int) := if x.write = true then some (vs.set x.object.toNat x.value) else if zA vs x.object.toNat = x.value then some vs else none
def lgTo (l : List Cl) (zs : List Int) : Nat → Option (List Int)
  | 0 => some [0, 0, 0]
  | k + 1 => (lgTo l zs k).bind fun vs => lgS vs (clA l (zA zs k).toNat)
def legB (l : List Cl) (zs : List Int) : Bool := (lgTo l zs zs.length).isSome
theorem lgTo_none {l : List Cl} {zs : List Int} : ∀ {k j : Nat}, lgTo l zs k = none → k ≤ j → lgTo l zs j = none
  | k, 0, h, hj => by rw [Nat.le_zero.1 hj] at h; exact h
  | k, j + 1, h, hj => by
    by_cases e : k = j + 1
    · subst e; exact h
    · rw [lgTo, lgTo_none h (by omega : k ≤ j)]; rfl
theorem legB_bad {l : List Cl} {zs : List Int} {k : Nat} (hk : k ≤ zs.length) (h : lgTo l zs k = none) : legB l zs = false := by simp [legB, lgTo_none h hk]
theorem legB_done {l : List Cl} {zs : List Int} {vs : List Int} (h : lgTo l zs zs.length = some vs) : legB l zs = true := by simp [legB, h]
theorem lgS_len {vs us : List Int} {x : Cl} (h : lgS vs x = some us) : us.length = vs.length := by
  unfold lgS at h
  split at h
  · cases h; simp
  · split at h
    · cases h; rfl
    · cases h

/-- Whether one must stand ahead of another. -/
def befB (c : Bool) (a b : Cl) : Bool := if c = true then decide (a.client = b.client) && decide (a.beg < b.beg) else decide (a.fin ≤ b.beg)
def rtOk (l : List Cl) (zs : List Int) (i : Nat) : Prop := ∀ j, i < j → j < zs.length → befB false (clA l (zA zs j).toNat) (clA l (zA zs i).toNat) = false
instance (l : List Cl) (zs : List Int) (i : Nat) : Decidable (rtOk l zs i) := decidable_of_iff (∀ j, j < zs.length → i < j → befB false (clA l (zA zs j).toNat) (clA l (zA zs i).toNat) = false) ⟨fun h j h1 h2 => h j h2 h1, fun h j h1 h2 => h j h2 h1⟩
def rtTo (l : List Cl) (zs : List Int) (k : Nat) : Prop := ∀ i, i < k → rtOk l zs i
instance (l : List Cl) (zs : List Int) (k : Nat) : Decidable (rtTo l zs k) := by unfold rtTo; infer_instance
def rspB (l : List Cl) (zs : List Int) : Bool := decide (rtTo l zs zs.length)
theorem rtTo_succ {l : List Cl} {zs : List Int} {k : Nat} (h : rtTo l zs k) (hk : rtOk l zs k) : rtTo l zs (k + 1) := fun i hi => by
  rcases Nat.lt_or_eq_of_le (Nat.le_of_lt_succ hi) with h1 | rfl
  · exact h i h1
  · exact hk
theorem rspB_bad {l : List Cl} {zs : List Int} {i j : Nat} (hi : i < j) (hj : j < zs.length) (h : befB false (clA l (zA zs j).toNat) (clA l (zA zs i).toNat) = true) : rspB l zs = false := by
  have : ¬ rtTo l zs zs.length := fun g => by have := g i (by omega) j hi hj; rw [h] at this; cases this
  simp [rspB, this]
theorem rspB_done {l : List Cl} {zs : List Int} (h : rtTo l zs zs.length) : rspB l zs = true := by simp [rspB, h]

def isB (l : List Cl) (zs : List Int) : Bool := goodCl l && ordB l.length zs
def lglA (l : List Cl) (zs : List Int) : Bool := isB l zs && legB l zs
def rspA (l : List Cl) (zs : List Int) : Bool := isB l zs && rspB l zs

/-- The calls on an object. -/
def onTo (l : List Cl) (o : Int) : Nat → List Cl
  | 0 => []
  | k + 1 => if (clA l k).object = o then onTo l o k ++ [clA l k] else onTo l o k
def onB (l : List Cl) (o : Int) : Bool := goodCl l && inB o 0 2
def onL (l : List Cl) (o : Int) : List Cl := if onB l o = true then onTo l o l.length else []
theorem onTo_t {l : List Cl} {o : Int} {k : Nat} (h : (clA l k).object = o) : onTo l o (k + 1) = onTo l o k ++ [clA l k] := by simp [onTo, h]
theorem onTo_f {l : List Cl} {o : Int} {k : Nat} (h : ¬ (clA l k).object = o) : onTo l o (k + 1) = onTo l o k := by simp [onTo, h]
theorem onTo_len (l : List Cl) (o : Int) : ∀ k, (onTo l o k).length ≤ k
  | 0 => Nat.le_refl _
  | k + 1 => by
    have := onTo_len l o k
    rw [onTo]
    split
    · simp; omega
    · omega
theorem onL_len (l : List Cl) (o : Int) : (onL l o).length ≤ 1000000 := by
  unfold onL
  split
  · rename_i h
    simp only [onB, Bool.and_eq_true] at h
    have := (goodCl_t h.1).2
    have := onTo_len l o l.length
    omega
  · simp

/-- How many of the first j overlap the call x. -/
def ovB (a b : Cl) : Bool := decide (a.beg < b.fin) && decide (b.beg < a.fin)
def ovN (l : List Cl) (a : Cl) : Nat → Nat
  | 0 => 0
  | j + 1 => ovN l a j + (if ovB a (clA l j) = true then 1 else 0)
def ovTo (l : List Cl) : Nat → Nat
  | 0 => 0
  | k + 1 => ovTo l k + ovN l (clA l k) k
theorem ovN_le (l : List Cl) (a : Cl) : ∀ j, ovN l a j ≤ j
  | 0 => Nat.le_refl _
  | j + 1 => by
    have := ovN_le l a j
    rw [ovN]
    split <;> omega
theorem ovTo_le (l : List Cl) : ∀ k, k ≤ 7 → ovTo l k ≤ k * 7
  | 0, _ => Nat.le_refl _
  | k + 1, h => by
    have := ovTo_le l k (by omega)
    have := ovN_le l (clA l k) k
    rw [ovTo]
    omega
def ovA (l : List Cl) : Int := if goodCl l = true then ((ovTo l l.length : Nat) : Int) else 0

end Go.Proofs.YtmbfdonefpegeaaDoor
