/-
  The least order that is legal and has each call behind those that must stand ahead of it, as it is found.
-/
import Derived.Test.YthnkncmhbeeiaaaDoorHiM
namespace Go.Proofs.YthnkncmhbeeiaaaDoor
open Go.RowKit

/-- Whether k may come next, the first o calls looked at. -/
def freeTo (l : List Cl) (cl : Bool) (ord : List Int) (k : Nat) : Nat → Bool
  | 0 => !ord.contains (k : Int)
  | o + 1 => freeTo l cl ord k o && !((!decide (o = k)) && (!ord.contains (o : Int) && befB cl (clA l o) (clA l k)))
theorem freeTo_same {l : List Cl} {cl : Bool} {ord : List Int} {k o : Nat} (h : o = k ∨ ord.contains (o : Int) = true ∨ befB cl (clA l o) (clA l k) = false) : freeTo l cl ord k (o + 1) = freeTo l cl ord k o := by
  rw [freeTo]
  rcases h with h | h | h
  · simp [h]
  · simp only [h]; simp
  · simp only [h]; simp
theorem freeTo_no {l : List Cl} {cl : Bool} {ord : List Int} {k o : Nat} (h1 : ¬ o = k) (h2 : ord.contains (o : Int) = false) (h3 : befB cl (clA l o) (clA l k) = true) : freeTo l cl ord k (o + 1) = false := by
  rw [freeTo, h2, h3, decide_eq_false h1]; simp

/-- The first list that is not empty. -/
def fstTo (g : Nat → List Int) : Nat → List Int
  | 0 => []
  | k + 1 => if (fstTo g k).length = 0 then g k else fstTo g k
theorem fstTo_none {g : Nat → List Int} : ∀ {n : Nat}, (∀ j, j < n → g j = []) → fstTo g n = []
  | 0, _ => rfl
  | n + 1, h => by
    rw [fstTo, fstTo_none (fun j hj => h j (by omega)), if_pos (by simp)]
    exact h n (by omega)
theorem fstTo_hit {g : Nat → List Int} {k : Nat} : ∀ {n : Nat}, k < n → (∀ j, j < k → g j = []) → 0 < (g k).length → fstTo g n = g k
  | 0, hk, _, _ => by omega
  | n + 1, hk, h, hg => by
    rw [fstTo]
    by_cases e : k = n
    · subst e; rw [fstTo_none h, if_pos (by simp)]
    · rw [fstTo_hit (by omega : k < n) h hg, if_neg (by omega)]

def findL (l : List Cl) (cl : Bool) : Nat → List Int → List Int
  | 0, ord => if legB l ord = true then (if ord.length = l.length then ord else []) else []
  | n + 1, ord => if legB l ord = true then (if ord.length = l.length then ord else fstTo (fun k => if freeTo l cl ord k l.length = true then findL l cl n (ord ++ [(k : Int)]) else []) l.length) else []
def nxtL (l : List Cl) (cl : Bool) (n : Nat) (ord : List Int) (k : Nat) : List Int := if freeTo l cl ord k l.length = true then findL l cl n (ord ++ [(k : Int)]) else []
theorem findL_bad {l : List Cl} {cl : Bool} {n : Nat} {ord : List Int} (h : legB l ord = false) : findL l cl n ord = [] := by cases n <;> simp [findL, h]
theorem findL_end {l : List Cl} {cl : Bool} {n : Nat} {ord : List Int} (h : legB l ord = true) (h2 : ord.length = l.length) : findL l cl n ord = ord := by cases n <;> simp [findL, h, h2]
theorem findL_go {l : List Cl} {cl : Bool} {n : Nat} {ord : List Int} (h : legB l ord = true) (h2 : ¬ ord.length = l.length) : findL l cl (n + 1) ord = fstTo (nxtL l cl n ord) l.length := by
  rw [findL, if_pos h, if_neg h2]; rfl
theorem nxtL_f {l : List Cl} {cl : Bool} {n : Nat} {ord : List Int} {k : Nat} (h : freeTo l cl ord k l.length = false) : nxtL l cl n ord k = [] := by simp [nxtL, h]
theorem nxtL_t {l : List Cl} {cl : Bool} {n : Nat} {ord : List Int} {k : Nat} (h : freeTo l cl ord k l.length = true) : nxtL l cl n ord k = findL l cl n (ord ++ [(k : Int)]) := by simp [nxtL, h]
theorem fstTo_len {g : Nat → List Int} {m : Nat} (h : ∀ k, (g k).length ≤ m) : ∀ n, (fstTo g n).length ≤ m
  | 0 => by simp [fstTo]
  | n + 1 => by
    rw [fstTo]
    split
    · exact h n
    · exact fstTo_len h n
theorem findL_len {l : List Cl} {cl : Bool} : ∀ {n : Nat} {ord : List Int}, (findL l cl n ord).length ≤ l.length
  | 0, ord => by
    rw [findL]
    split
    · split
      · omega
      · simp
    · simp
  | n + 1, ord => by
    rw [findL]
    split
    · split
      · omega
      · refine fstTo_len (fun k => ?_) _
        split
        · exact findL_len
        · simp
    · simp

def fndL (l : List Cl) (cl : Bool) : List Int := findL l cl l.length []
def linA (l : List Cl) (cl : Bool) : Bool := goodCl l && decide ((fndL l cl).length = l.length)
def ordForB (l : List Cl) : Bool := linA l false
def ordForL (l : List Cl) : List Int := if ordForB l = true then fndL l false else []
theorem ordForL_len (l : List Cl) : (ordForL l).length ≤ 1000000 := by
  unfold ordForL
  split
  · rename_i h
    simp only [ordForB, linA, Bool.and_eq_true] at h
    have := (goodCl_t h.1).2
    have := findL_len (l := l) (cl := false) (n := l.length) (ord := [])
    unfold fndL
    omega
  · simp

end Go.Proofs.YthnkncmhbeeiaaaDoor
