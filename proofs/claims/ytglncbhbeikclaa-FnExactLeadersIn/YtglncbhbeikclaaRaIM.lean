/-
  Rafts in the order in which the program asks: logs by their terms and by their values, peers, letters.
-/
import Derived.Test.YtglncbhbeikclaaRaM
namespace Go.Proofs.Ytglncbhbeikclaa
open Go.RowKit

/-- The term that an entry must not fall below. -/
def leastT (l : List En) (i : Nat) : Int := if i = 0 then 0 else (enA l (i - 1)).term
theorem leastT_zero (l : List En) : leastT l 0 = 0 := rfl
theorem leastT_succ (l : List En) (i : Nat) : leastT l (i + 1) = (enA l i).term := rfl
def trOk (l : List En) (most : Int) (i : Nat) : Prop := leastT l i ≤ (enA l i).term ∧ (enA l i).term ≤ most
def trTo (l : List En) (most : Int) (k : Nat) : Prop := ∀ i, i < k → trOk l most i
instance (l : List En) (most : Int) (i : Nat) : Decidable (trOk l most i) := by unfold trOk; infer_instance
instance (l : List En) (most : Int) (k : Nat) : Decidable (trTo l most k) := by unfold trTo; infer_instance
def trB (l : List En) (most : Int) : Bool := decide (trTo l most l.length)
theorem trTo_succ {l : List En} {most : Int} {k : Nat} (h : trTo l most k) (hk : trOk l most k) : trTo l most (k + 1) := fun i hi => by
  rcases Nat.lt_or_eq_of_le (Nat.le_of_lt_succ hi) with h1 | rfl
  · exact h i h1
  · exact hk
theorem trB_bad {l : List En} {most : Int} {k : Nat} (hk : k < l.length) (h : ¬ trOk l most k) : trB l most = false := by
  have : ¬ trTo l most l.length := fun g => h (g k hk)
  simp [trB, this]
theorem trB_done {l : List En} {most : Int} (h : trTo l most l.length) : trB l most = true := by simp [trB, h]

def valB (e : En) : Bool := inB e.val 0 99

theorem logB_is (l : List En) (most : Int) : logB l most = (decide (l.length ≤ 30) && (trB l most && l.all valB)) := by
  have key : enTo l most l.length ↔ trTo l most l.length ∧ l.all valB = true := by
    constructor
    · intro h
      refine ⟨fun i hi => ?_, ?_⟩
      · obtain ⟨h1, -, h3⟩ := h i hi
        have h1 := inB_t.1 h1
        refine ⟨?_, h1.2⟩
        unfold leastT
        split
        · exact h1.1
        · exact h3 (by omega)
      · rw [List.all_eq_true]
        intro x hx
        obtain ⟨i, hi, e⟩ := List.getElem_of_mem hx
        have := (h i hi).2.1
        rw [enA_some (by rw [List.getElem?_eq_getElem hi, e])] at this
        exact this
    · rintro ⟨h1, h2⟩ i hi
      have pos : ∀ j, j < l.length → 0 ≤ (enA l j).term := by
        intro j
        induction j with
        | zero => intro hj; exact (h1 0 hj).1
        | succ j ih => intro hj; have := (h1 (j + 1) hj).1; rw [leastT_succ] at this; have := ih (by omega); omega
      refine ⟨inB_t.2 ⟨pos i hi, (h1 i hi).2⟩, List.all_eq_true.1 h2 _ (List.mem_of_getElem? (enA_get hi)), fun h0 => ?_⟩
      have := (h1 i hi).1
      unfold leastT at this
      rw [if_neg (by omega)] at this
      exact this
  unfold logB trB
  rw [Bool.eq_iff_iff]
  simp only [Bool.and_eq_true, decide_eq_true_eq]
  rw [key]
  constructor
  · rintro ⟨⟨a, b⟩, c⟩; exact ⟨c, a, b⟩
  · rintro ⟨c, a, b⟩; exact ⟨⟨a, b⟩, c⟩

def mostM (p : Pe) : Int := if p.leads = true then (p.log.length : Int) else 0
def matB (p : Pe) : Bool := p.mat.all fun m => inB m 0 (mostM p)
theorem okPe_is (n : Nat) (p : Pe) : okPe n p = (inB p.term 0 100 && (logB p.log p.term && (inB p.commit 0 (p.log.length : Int) && (decide (p.mat.length = n) && matB p)))) := by
  have h1 : inB p.commit 0 (p.log.length : Int) = (decide (0 ≤ p.commit) && decide (p.commit ≤ (p.log.length : Int))) := by rw [Bool.eq_iff_iff, inB_t]; simp
  have h2 : p.mat.all (okMt p.log.length p.leads) = matB p := by
    unfold matB
    congr 1
    funext m
    unfold mostM okMt
    rw [Bool.eq_iff_iff, inB_t]
    cases p.leads
    · simp; omega
    · simp
  unfold okPe
  rw [h1, h2]
  cases inB p.term 0 100 <;> cases logB p.log p.term <;> cases decide (0 ≤ p.commit) <;> cases decide (p.commit ≤ (p.log.length : Int)) <;> simp

def okTA (m : Ma) : Bool := if m.prev = 0 then decide (m.pterm = -1) else inB m.pterm 0 m.term
def enIn (m : Ma) (e : En) : Bool := inB e.term 0 m.term && (decide (m.pterm ≤ e.term) && valB e)
def okME (m : Ma) : Bool := decide (m.entry.length ≤ 1) && m.entry.all (enIn m)
def okAI (m : Ma) : Bool := inB m.prev 0 30 && (inB m.commit 0 30 && (decide (m.mat = 0) && (okTA m && okME m)))

theorem okAp_is {m : Ma} (h : 0 ≤ m.term) : okAp m = okAI m := by
  have h1 : (inB m.pterm (-1) m.term && (decide (m.prev = 0) == decide (m.pterm = -1))) = okTA m := by
    unfold okTA
    rw [Bool.eq_iff_iff]
    by_cases hp : m.prev = 0
    · simp [hp, inB]
      intro h1; omega
    · simp [hp, inB]
      omega
  have h2 : (decide (m.entry.length ≤ 1) && (logB m.entry m.term && (decide (m.entry.length = 0) || decide (m.pterm ≤ (enA m.entry 0).term)))) = okME m := by
    unfold okME
    match he : m.entry with
    | [] => simp [logB, enTo]
    | [e] =>
      have h3 : logB [e] m.term = (inB e.term 0 m.term && valB e) := by
        rw [logB_is]
        have : trB [e] m.term = inB e.term 0 m.term := by
          unfold trB
          rw [Bool.eq_iff_iff, inB_t, decide_eq_true_eq]
          constructor
          · intro h; exact h 0 (by simp)
          · intro h i hi
            obtain rfl : i = 0 := by simp at hi; omega
            exact h
        rw [this]
        simp
      rw [h3]
      have h4 : enA [e] 0 = e := rfl
      rw [h4]
      simp only [List.all_cons, List.all_nil, Bool.and_true, enIn]
      cases inB e.term 0 m.term <;> cases valB e <;> simp
    | a :: b :: l => simp
  unfold okAp okAI
  rw [← h1, ← h2]
  cases inB m.prev 0 30 <;> cases inB m.pterm (-1) m.term <;> cases (decide (m.prev = 0) == decide (m.pterm = -1)) <;> cases inB m.commit 0 30 <;> cases decide (m.mat = 0) <;> simp

def okMI (m : Ma) : Bool := if m.reply = true then okRe m else okAI m
theorem okMa_is (n : Nat) (m : Ma) : okMa n m = (thB n m.fr && (thB n m.to && (!decide (m.fr = m.to) && (inB m.term 0 100 && okMI m)))) := by
  unfold okMa okMI
  cases h : inB m.term 0 100
  · simp
  · rw [okAp_is (inB_t.1 h).1]

theorem goodRa_is (s : Ra) : goodRa s = (inB s.prs.length 1 5 && (decide (s.mail.length ≤ 20) && (s.prs.all (okPe s.prs.length) && s.mail.all (okMa s.prs.length)))) := by
  unfold goodRa
  cases s.prs.all (okPe s.prs.length) <;> cases s.mail.all (okMa s.prs.length) <;> cases inB s.prs.length 1 5 <;> simp

end Go.Proofs.Ytglncbhbeikclaa
