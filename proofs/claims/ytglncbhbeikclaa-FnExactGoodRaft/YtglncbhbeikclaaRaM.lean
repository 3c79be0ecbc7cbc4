/-
  Rafts in plain mathematics: good logs of entries, good peers, letters and rafts.
-/
import Derived.Test.YtglncbhbeikclaaRft
import Derived.Test.YtglncbhbeikclaaGnM
namespace Go.Proofs.Ytglncbhbeikclaa
open Go.RowKit

def enA (l : List En) (i : Nat) : En := l.getD i ⟨0, 0⟩
theorem enA_some {l : List En} {k : Nat} {z : En} (h : l[k]? = some z) : enA l k = z := by simp [enA, List.getD_eq_getElem?_getD, h]
theorem enA_get {l : List En} {k : Nat} (h : k < l.length) : l[k]? = some (enA l k) := by simp [enA, List.getD_eq_getElem?_getD, List.getElem?_eq_getElem h]

def enOk (l : List En) (term : Int) (i : Nat) : Prop := inB (enA l i).term 0 term = true ∧ inB (enA l i).val 0 99 = true ∧ (0 < i → (enA l (i - 1)).term ≤ (enA l i).term)
instance (l : List En) (term : Int) (i : Nat) : Decidable (enOk l term i) := by unfold enOk; infer_instance
def enTo (l : List En) (term : Int) (k : Nat) : Prop := ∀ i, i < k → enOk l term i
instance (l : List En) (term : Int) (k : Nat) : Decidable (enTo l term k) := by unfold enTo; infer_instance

def logB (l : List En) (term : Int) : Bool := decide (enTo l term l.length) && decide (l.length ≤ 30)
theorem logB_bad {l : List En} {term : Int} {k : Nat} (hk : k < l.length) (h : ¬ enOk l term k) : logB l term = false := by
  have : ¬ enTo l term l.length := fun g => h (g k hk)
  simp [logB, this]
theorem logB_len {l : List En} {term : Int} (h : enTo l term l.length) : logB l term = decide (l.length ≤ 30) := by simp [logB, h]
theorem enTo_succ {l : List En} {term : Int} {k : Nat} (h : enTo l term k) (hk : enOk l term k) : enTo l term (k + 1) := fun i hi => by
  rcases Nat.lt_or_eq_of_le (Nat.le_of_lt_succ hi) with h1 | rfl
  · exact h i h1
  · exact hk

/-- One place of a peer's Match. -/
def okMt (n : Nat) (leads : Bool) (m : Int) : Bool := decide (0 ≤ m) && (decide (m ≤ (n : Int)) && (leads || decide (m = 0)))
def okPe (n : Nat) (p : Pe) : Bool := inB p.term 0 100 && (logB p.log p.term && (decide (0 ≤ p.commit) && (decide (p.commit ≤ (p.log.length : Int)) && (decide (p.mat.length = n) && p.mat.all (okMt p.log.length p.leads)))))

def okRe (m : Ma) : Bool := decide (m.prev = 0) && (decide (m.pterm = 0) && (decide (m.entry.length = 0) && (decide (m.commit = 0) && inB m.mat 0 30)))
def okAp (m : Ma) : Bool := inB m.prev 0 30 && (inB m.pterm (-1) m.term && ((decide (m.prev = 0) == decide (m.pterm = -1)) && (inB m.commit 0 30 && (decide (m.mat = 0) && (decide (m.entry.length ≤ 1) && (logB m.entry m.term && (decide (m.entry.length = 0) || decide (m.pterm ≤ (enA m.entry 0).term))))))))
def okMa (n : Nat) (m : Ma) : Bool := thB n m.fr && (thB n m.to && (!decide (m.fr = m.to) && (inB m.term 0 100 && (if m.reply = true then okRe m else okAp m))))

def goodRa (s : Ra) : Bool := s.prs.all (okPe s.prs.length) && (s.mail.all (okMa s.prs.length) && (inB s.prs.length 1 5 && decide (s.mail.length ≤ 20)))

end Go.Proofs.Ytglncbhbeikclaa
