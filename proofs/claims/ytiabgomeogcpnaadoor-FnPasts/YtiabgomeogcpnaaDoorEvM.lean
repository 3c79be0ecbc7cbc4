/-
  Events, plainly: where a message was sent or taken, whether one may come behind others, which lists are good.
-/
import Derived.Test.YtiabgomeogcpnaaDoorEvs
namespace Go.Proofs.YtiabgomeogcpnaaDoor
open Go.RowKit

def evA (l : List Ev) (i : Nat) : Ev := l.getD i ⟨0, 0, 0⟩
theorem evA_some {l : List Ev} {k : Nat} {z : Ev} (h : l[k]? = some z) : evA l k = z := by
  unfold evA; rw [List.getD_eq_getElem?_getD, h]; rfl
theorem evA_get {l : List Ev} {k : Nat} (h : k < l.length) : l[k]? = some (evA l k) := by
  unfold evA; rw [List.getD_eq_getElem?_getD, List.getElem?_eq_getElem h]; rfl

/-- The first of the first n with this kind and message; -1 for none. -/
def fnd (l : List Ev) (kd ms : Int) : Nat → Int
  | 0 => -1
  | n + 1 => if 0 ≤ fnd l kd ms n then fnd l kd ms n else if (evA l n).kd = kd ∧ (evA l n).ms = ms then (n : Int) else -1

theorem fnd_rg (l : List Ev) (kd ms : Int) : ∀ n, -1 ≤ fnd l kd ms n ∧ fnd l kd ms n < n
  | 0 => by simp [fnd]
  | n + 1 => by
    have h := fnd_rg l kd ms n
    rw [fnd]
    split
    · omega
    · split <;> omega

theorem fnd_stays {l : List Ev} {kd ms : Int} {k : Nat} (h : 0 ≤ fnd l kd ms k) : ∀ n, k ≤ n → fnd l kd ms n = fnd l kd ms k
  | 0, hn => by obtain rfl : k = 0 := by omega
                rfl
  | n + 1, hn => by
    by_cases e : k = n + 1
    · rw [e]
    · have := fnd_stays h n (by omega)
      rw [fnd, this, if_pos h]

theorem fnd_hit {l : List Ev} {kd ms : Int} {k n : Nat} (h : fnd l kd ms k = -1) (hh : (evA l k).kd = kd ∧ (evA l k).ms = ms) (hn : k < n) : fnd l kd ms n = k := by
  have e : fnd l kd ms (k + 1) = k := by rw [fnd, h, if_neg (by omega), if_pos hh]
  rw [fnd_stays (k := k + 1) (by omega) n (by omega), e]

theorem fnd_miss {l : List Ev} {kd ms : Int} {k : Nat} (h : fnd l kd ms k = -1) (hh : ¬ ((evA l k).kd = kd ∧ (evA l k).ms = ms)) : fnd l kd ms (k + 1) = -1 := by
  rw [fnd, h, if_neg (by omega), if_neg hh]

theorem fnd_cases (l : List Ev) (kd ms : Int) (n : Nat) : fnd l kd ms n = -1 ∨ ∃ k : Nat, k < n ∧ fnd l kd ms n = k := by
  have h := fnd_rg l kd ms n
  by_cases e : 0 ≤ fnd l kd ms n
  · exact .inr ⟨(fnd l kd ms n).toNat, by omega, by omega⟩
  · exact .inl (by omega)

/-- Of the first i and one that comes behind them whether it may. -/
def mayC (l : List Ev) (i : Nat) (e : Ev) : Prop :=
  (e.kd = 1 ∧ e.ms = 0) ∨ (e.kd = 2 ∧ (1 ≤ e.ms ∧ e.ms ≤ 24) ∧ fnd l 2 e.ms i < 0) ∨ (e.kd = 3 ∧ 0 ≤ fnd l 2 e.ms i ∧ (evA l (fnd l 2 e.ms i).toNat).pr ≠ e.pr ∧ fnd l 3 e.ms i < 0)
instance (l : List Ev) (i : Nat) (e : Ev) : Decidable (mayC l i e) := by unfold mayC; infer_instance

def okEv1 (procs : Int) (l : List Ev) (i : Nat) : Prop := (0 ≤ (evA l i).pr ∧ (evA l i).pr < procs) ∧ mayC l i (evA l i)
instance (procs : Int) (l : List Ev) (k : Nat) : Decidable (okEv1 procs l k) := by unfold okEv1; infer_instance
def okEv (procs : Int) (l : List Ev) (k : Nat) : Prop := ∀ i, i < k → okEv1 procs l i
instance (procs : Int) (l : List Ev) (k : Nat) : Decidable (okEv procs l k) := by unfold okEv; infer_instance
def goodEv (procs : Int) (l : List Ev) : Bool := decide (okEv procs l l.length ∧ (1 ≤ procs ∧ procs ≤ 5) ∧ l.length ≤ 24)

theorem goodEv_t {procs : Int} {l : List Ev} : goodEv procs l = true ↔ okEv procs l l.length ∧ (1 ≤ procs ∧ procs ≤ 5) ∧ l.length ≤ 24 := by simp [goodEv]
theorem goodEv_f {procs : Int} {l : List Ev} (h : ¬ (okEv procs l l.length ∧ (1 ≤ procs ∧ procs ≤ 5) ∧ l.length ≤ 24)) : goodEv procs l = false := by simp only [goodEv, decide_eq_false_iff_not]; exact h
theorem okEv_bad {procs : Int} {l : List Ev} {k : Nat} (hk : k < l.length) (h : ¬ okEv1 procs l k) : goodEv procs l = false := goodEv_f fun g => h (g.1 k hk)
theorem okEv_succ {procs : Int} {l : List Ev} {k : Nat} (h : okEv procs l k) (h1 : okEv1 procs l k) : okEv procs l (k + 1) := fun i hi => by
  by_cases e : i = k
  · subst e; exact h1
  · exact h i (by omega)

/-- The last of the first n of this process; -1 for none. -/
def lastN (l : List Ev) (pr : Int) : Nat → Int
  | 0 => -1
  | n + 1 => if (evA l n).pr = pr then (n : Int) else lastN l pr n

theorem lastN_rg (l : List Ev) (pr : Int) : ∀ n, -1 ≤ lastN l pr n ∧ lastN l pr n < n
  | 0 => by simp [lastN]
  | n + 1 => by
    have h := lastN_rg l pr n
    rw [lastN]
    split <;> omega

end Go.Proofs.YtiabgomeogcpnaaDoor
