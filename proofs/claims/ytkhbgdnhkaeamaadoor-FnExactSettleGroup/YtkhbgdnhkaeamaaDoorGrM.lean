/-
  Groups of replicas in plain mathematics: good logs of rows, what two logs share from the front, good groups, lag. Made by mkgrs.py.
-/
import Derived.Test.YtkhbgdnhkaeamaaDoorGrp
import Derived.Test.YtkhbgdnhkaeamaaDoorGnM
namespace Go.Proofs.YtkhbgdnhkaeamaaDoor
open Go.RowKit

def rwA (l : List Rw) (i : Nat) : Rw := l.getD i ⟨0, 0⟩
theorem rwA_some {l : List Rw} {k : Nat} {z : Rw} (h : l[k]? = some z) : rwA l k = z := by simp [rwA, List.getD_eq_getElem?_getD, h]
theorem rwA_get {l : List Rw} {k : Nat} (h : k < l.length) : l[k]? = some (rwA l k) := by simp [rwA, List.getD_eq_getElem?_getD, List.getElem?_eq_getElem h]
def rwOk (l : List Rw) (epoch : Int) (i : Nat) : Prop := inB (rwA l i).epoch 0 epoch = true ∧ inB (rwA l i).val 0 99 = true ∧ (0 < i → (rwA l (i - 1)).epoch ≤ (rwA l i).epoch)
instance (l : List Rw) (epoch : Int) (i : Nat) : Decidable (rwOk l epoch i) := by unfold rwOk; infer_instance
def rwTo (l : List Rw) (epoch : Int) (k : Nat) : Prop := ∀ i, i < k → rwOk l epoch i
instance (l : List Rw) (epoch : Int) (k : Nat) : Decidable (rwTo l epoch k) := by unfold rwTo; infer_instance
def rlogB (l : List Rw) (epoch : Int) : Bool := decide (rwTo l epoch l.length) && decide (l.length ≤ 30)
theorem rlogB_bad {l : List Rw} {epoch : Int} {k : Nat} (hk : k < l.length) (h : ¬ rwOk l epoch k) : rlogB l epoch = false := by
  have : ¬ rwTo l epoch l.length := fun g => h (g k hk)
  simp [rlogB, this]
theorem rlogB_len {l : List Rw} {epoch : Int} (h : rwTo l epoch l.length) : rlogB l epoch = decide (l.length ≤ 30) := by simp [rlogB, h]
theorem rwTo_succ {l : List Rw} {epoch : Int} {k : Nat} (h : rwTo l epoch k) (hk : rwOk l epoch k) : rwTo l epoch (k + 1) := fun i hi => by
  rcases Nat.lt_or_eq_of_le (Nat.le_of_lt_succ hi) with h1 | rfl
  · exact h i h1
  · exact hk

/-- How many rows two logs share from the front. -/
def sameN : List Rw → List Rw → Nat
  | x :: xs, y :: ys => if x = y then sameN xs ys + 1 else 0
  | _, _ => 0
theorem sameN_le : ∀ xs ys, sameN xs ys ≤ xs.length ∧ sameN xs ys ≤ ys.length
  | [], ys => by simp [sameN]
  | x :: xs, [] => by simp [sameN]
  | x :: xs, y :: ys => by
    have := sameN_le xs ys
    rw [sameN]
    split <;> simp <;> omega
theorem same_step {xs ys : List Rw} {k : Nat} {x : Rw} (h1 : xs[k]? = some x) (h2 : ys[k]? = some x) : sameN (xs.drop k) (ys.drop k) = sameN (xs.drop (k + 1)) (ys.drop (k + 1)) + 1 := by
  rw [dropRw_cons h1, dropRw_cons h2, sameN, if_pos rfl]
theorem same_stop {xs ys : List Rw} {k : Nat} {x y : Rw} (h1 : xs[k]? = some x) (h2 : ys[k]? = some y) (h : x ≠ y) : sameN (xs.drop k) (ys.drop k) = 0 := by
  rw [dropRw_cons h1, dropRw_cons h2, sameN, if_neg h]
theorem same_end1 {xs ys : List Rw} {k : Nat} (h : xs.length ≤ k) : sameN (xs.drop k) (ys.drop k) = 0 := by
  rw [List.drop_eq_nil_of_le h, sameN]; intro _ _ _ _ h; cases h
theorem same_end2 {xs ys : List Rw} {k : Nat} (h : ys.length ≤ k) : sameN (xs.drop k) (ys.drop k) = 0 := by
  rw [List.drop_eq_nil_of_le h, sameN]; intro _ _ _ _ _ h; cases h

def rpA (l : List Rp) (i : Nat) : Rp := l.getD i ⟨[], 0, 0⟩
theorem rpA_some {l : List Rp} {k : Nat} {z : Rp} (h : l[k]? = some z) : rpA l k = z := by simp [rpA, List.getD_eq_getElem?_getD, h]
theorem rpA_get {l : List Rp} {k : Nat} (h : k < l.length) : l[k]? = some (rpA l k) := by simp [rpA, List.getD_eq_getElem?_getD, List.getElem?_eq_getElem h]
def leadL (g : Gr) : List Rw := (rpA g.reps g.leader.toNat).log
/-- One replica, at place k. -/
def okRp (g : Gr) (k : Nat) (r : Rp) : Bool :=
  rlogB r.log g.epoch && (inB r.epoch 0 g.epoch && (decide (0 ≤ r.known) && (decide (r.known ≤ (r.log.length : Int)) && ((!g.steps.contains (k : Int) || decide (g.high ≤ (sameN r.log (leadL g) : Int))) && (!decide (r.epoch = g.epoch) || decide (r.known ≤ (sameN r.log (leadL g) : Int)))))))
theorem okRp_t {g : Gr} {k n : Nat} {r : Rp} {lg : List Rw} (hL : leadL g = lg) (hn : sameN r.log lg = n) (h1 : rlogB r.log g.epoch = true) (h2 : inB r.epoch 0 g.epoch = true) (h3 : 0 ≤ r.known) (h4 : r.known ≤ (r.log.length : Int)) (h5 : g.steps.contains (k : Int) = false ∨ g.high ≤ (n : Int)) (h6 : r.epoch ≠ g.epoch ∨ r.known ≤ (n : Int)) : okRp g k r = true := by
  unfold okRp
  rw [hL, hn, h1, h2, decide_eq_true h3, decide_eq_true h4, Bool.true_and, Bool.true_and, Bool.true_and, Bool.true_and, Bool.and_eq_true]
  refine ⟨?_, ?_⟩
  · rcases h5 with h | h
    · rw [h]; rfl
    · rw [decide_eq_true h, Bool.or_true]
  · rcases h6 with h | h
    · rw [decide_eq_false h]; rfl
    · rw [decide_eq_true h, Bool.or_true]
theorem okRp_f {g : Gr} {k n : Nat} {r : Rp} {lg : List Rw} (hL : leadL g = lg) (hn : sameN r.log lg = n) (h6 : r.epoch = g.epoch) (h : (n : Int) < r.known) : okRp g k r = false := by
  unfold okRp
  have h' : ¬ r.known ≤ (n : Int) := by omega
  rw [hL, hn, decide_eq_true h6, decide_eq_false h']
  simp
def rpTo (g : Gr) (k : Nat) : Prop := ∀ i, i < k → okRp g i (rpA g.reps i) = true
instance (g : Gr) (k : Nat) : Decidable (rpTo g k) := by unfold rpTo; infer_instance
theorem rpTo_succ {g : Gr} {k : Nat} {r : Rp} (h : rpTo g k) (hr : g.reps[k]? = some r) (hk : okRp g k r = true) : rpTo g (k + 1) := fun i hi => by
  rcases Nat.lt_or_eq_of_le (Nat.le_of_lt_succ hi) with h1 | rfl
  · exact h i h1
  · rw [rpA_some hr]; exact hk
def headGr (g : Gr) : Bool := inB g.reps.length 2 4 && (inB g.epoch 0 100 && (riseB g.steps g.reps.length && (g.steps.contains g.leader && decide (0 ≤ g.high))))
def goodGr (g : Gr) : Bool := headGr g && decide (rpTo g g.reps.length)
theorem goodGr_bad {g : Gr} {k : Nat} {r : Rp} (hr : g.reps[k]? = some r) (h : okRp g k r = false) : goodGr g = false := by
  have hk := (List.getElem?_eq_some_iff.1 hr).1
  have : ¬ rpTo g g.reps.length := fun g2 => by have := g2 k hk; rw [rpA_some hr, h] at this; cases this
  simp [goodGr, this]
theorem goodGr_head {g : Gr} (h : headGr g = false) : goodGr g = false := by simp [goodGr, h]
theorem goodGr_done {g : Gr} (h : headGr g = true) (h2 : rpTo g g.reps.length) : goodGr g = true := by simp [goodGr, h, h2]
theorem head_lead {g : Gr} (h : headGr g = true) : 0 ≤ g.leader ∧ g.leader < (g.reps.length : Int) := by
  simp only [headGr, Bool.and_eq_true] at h
  exact rise_mem h.2.2.1 (by simpa using h.2.2.2.1)

/-- How far a replica lags. -/
def lgB (g : Gr) (k : Int) : Bool := goodGr g && thB g.reps.length k
def lgN (g : Gr) (k : Int) : Int := if lgB g k = true then ((leadL g).length : Int) - (sameN (rpA g.reps k.toNat).log (leadL g) : Int) else 0

end Go.Proofs.YtkhbgdnhkaeamaaDoor
