/-
  Groups in the order in which the program asks: logs by their epochs and by their values, replicas, who is in step. Made by mkgrim.py.
-/
import Derived.Test.YtkhbgdnhkaeamaaDoorGrM
namespace Go.Proofs.YtkhbgdnhkaeamaaDoor
open Go.RowKit

/-- The epoch that a row must not fall below. -/
def leastW (l : List Rw) (i : Nat) : Int := if i = 0 then 0 else (rwA l (i - 1)).epoch
theorem leastW_zero (l : List Rw) : leastW l 0 = 0 := rfl
theorem leastW_succ (l : List Rw) (i : Nat) : leastW l (i + 1) = (rwA l i).epoch := rfl
def twOk (l : List Rw) (most : Int) (i : Nat) : Prop := leastW l i ≤ (rwA l i).epoch ∧ (rwA l i).epoch ≤ most
def twTo (l : List Rw) (most : Int) (k : Nat) : Prop := ∀ i, i < k → twOk l most i
instance (l : List Rw) (most : Int) (i : Nat) : Decidable (twOk l most i) := by unfold twOk; infer_instance
instance (l : List Rw) (most : Int) (k : Nat) : Decidable (twTo l most k) := by unfold twTo; infer_instance
def twB (l : List Rw) (most : Int) : Bool := decide (twTo l most l.length)
theorem twTo_succ {l : List Rw} {most : Int} {k : Nat} (h : twTo l most k) (hk : twOk l most k) : twTo l most (k + 1) := fun i hi => by
  rcases Nat.lt_or_eq_of_le (Nat.le_of_lt_succ hi) with h1 | rfl
  · exact h i h1
  · exact hk
theorem twB_bad {l : List Rw} {most : Int} {k : Nat} (hk : k < l.length) (h : ¬ twOk l most k) : twB l most = false := by
  have : ¬ twTo l most l.length := fun g => h (g k hk)
  simp [twB, this]
theorem twB_done {l : List Rw} {most : Int} (h : twTo l most l.length) : twB l most = true := by simp [twB, h]

def rvalB (e : Rw) : Bool := inB e.val 0 99

theorem rlogB_is (l : List Rw) (most : Int) : rlogB l most = (decide (l.length ≤ 30) && (twB l most && l.all rvalB)) := by
  have key : rwTo l most l.length ↔ twTo l most l.length ∧ l.all rvalB = true := by
    constructor
    · intro h
      refine ⟨fun i hi => ?_, ?_⟩
      · obtain ⟨h1, -, h3⟩ := h i hi
        have h1 := inB_t.1 h1
        refine ⟨?_, h1.2⟩
        unfold leastW
        split
        · exact h1.1
        · exact h3 (by omega)
      · rw [List.all_eq_true]
        intro x hx
        obtain ⟨i, hi, e⟩ := List.getElem_of_mem hx
        have := (h i hi).2.1
        rw [rwA_some (by rw [List.getElem?_eq_getElem hi, e])] at this
        exact this
    · rintro ⟨h1, h2⟩ i hi
      have pos : ∀ j, j < l.length → 0 ≤ (rwA l j).epoch := by
        intro j
        induction j with
        | zero => intro hj; exact (h1 0 hj).1
        | succ j ih => intro hj; have := (h1 (j + 1) hj).1; rw [leastW_succ] at this; have := ih (by omega); omega
      refine ⟨inB_t.2 ⟨pos i hi, (h1 i hi).2⟩, List.all_eq_true.1 h2 _ (List.mem_of_getElem? (rwA_get hi)), fun h0 => ?_⟩
      have := (h1 i hi).1
      unfold leastW at this
      rw [if_neg (by omega)] at this
      exact this
  unfold rlogB twB
  rw [Bool.eq_iff_iff]
  simp only [Bool.and_eq_true, decide_eq_true_eq]
  rw [key]
  constructor
  · rintro ⟨⟨a, b⟩, c⟩; exact ⟨c, a, b⟩
  · rintro ⟨c, a, b⟩; exact ⟨⟨a, b⟩, c⟩

theorem sameN_comm : ∀ a b : List Rw, sameN a b = sameN b a
  | [], [] => rfl
  | [], y :: ys => by simp [sameN]
  | x :: xs, [] => by simp [sameN]
  | x :: xs, y :: ys => by
    rw [sameN, sameN, sameN_comm xs ys]
    by_cases h : x = y
    · rw [if_pos h, if_pos h.symm]
    · rw [if_neg h, if_neg (fun g => h g.symm)]

/-- A replica, the leader's log being lg. -/
def okRI (ep : Int) (lg : List Rw) (r : Rp) : Bool := inB r.epoch 0 ep && (rlogB r.log ep && (inB r.known 0 (r.log.length : Int) && (!(r.epoch == ep) || decide (r.known ≤ (sameN lg r.log : Int)))))
def okRA (ep : Int) (lg : List Rw) (l : List Rp) : Prop := ∀ i, i < l.length → okRI ep lg (rpA l i) = true
instance (ep : Int) (lg : List Rw) (l : List Rp) : Decidable (okRA ep lg l) := by unfold okRA; infer_instance
def okRTo (ep : Int) (lg : List Rw) (l : List Rp) (k : Nat) : Prop := ∀ i, i < k → okRI ep lg (rpA l i) = true
theorem okRTo_succ {ep : Int} {lg : List Rw} {l : List Rp} {k : Nat} {r : Rp} (h : okRTo ep lg l k) (hr : l[k]? = some r) (hk : okRI ep lg r = true) : okRTo ep lg l (k + 1) := fun i hi => by
  rcases Nat.lt_or_eq_of_le (Nat.le_of_lt_succ hi) with h1 | rfl
  · exact h i h1
  · rw [rpA_some hr]; exact hk
/-- What one in step shares with the leader. -/
def hiB (s : Gr) (z : Int) : Bool := inB s.high 0 (sameN (leadL s) (rpA s.reps z.toNat).log : Int)
def headI (s : Gr) : Bool := inB s.reps.length 2 4 && (inB s.epoch 0 100 && inB s.leader 0 ((s.reps.length : Int) - 1))
def goodI (s : Gr) : Bool := headI s && (decide (okRA s.epoch (leadL s) s.reps) && (riseB s.steps s.reps.length && (s.steps.contains s.leader && s.steps.all (hiB s))))

theorem okRI_iff {ep : Int} {lg : List Rw} {r : Rp} : okRI ep lg r = true ↔ inB r.epoch 0 ep = true ∧ rlogB r.log ep = true ∧ 0 ≤ r.known ∧ r.known ≤ (r.log.length : Int) ∧ (r.epoch = ep → r.known ≤ (sameN r.log lg : Int)) := by
  unfold okRI
  rw [sameN_comm lg r.log]
  simp only [Bool.and_eq_true, Bool.or_eq_true, Bool.not_eq_true', decide_eq_true_eq, inB_t]
  constructor
  · rintro ⟨h1, h2, h3, h4⟩
    exact ⟨h1, h2, h3.1, h3.2, fun h => by rcases h4 with h4 | h4; (· simp [h] at h4); exact h4⟩
  · rintro ⟨h1, h2, h3, h4, h5⟩
    refine ⟨h1, h2, ⟨h3, h4⟩, ?_⟩
    by_cases h : r.epoch = ep
    · exact .inr (h5 h)
    · exact .inl (by simpa using h)

theorem okRp_iff {g : Gr} {k : Nat} {r : Rp} : okRp g k r = true ↔ okRI g.epoch (leadL g) r = true ∧ ((k : Int) ∈ g.steps → g.high ≤ (sameN r.log (leadL g) : Int)) := by
  rw [okRI_iff]
  unfold okRp
  simp only [Bool.and_eq_true, Bool.or_eq_true, Bool.not_eq_true', decide_eq_true_eq, decide_eq_false_iff_not]
  constructor
  · rintro ⟨h1, h2, h3, h4, h5, h6⟩
    refine ⟨⟨h2, h1, h3, h4, fun h => ?_⟩, fun h => ?_⟩
    · rcases h6 with h6 | h6
      · exact absurd h h6
      · exact h6
    · rcases h5 with h5 | h5
      · simp [h] at h5
      · exact h5
  · rintro ⟨⟨h2, h1, h3, h4, h6⟩, h5⟩
    refine ⟨h1, h2, h3, h4, ?_, ?_⟩
    · by_cases h : (k : Int) ∈ g.steps
      · exact .inr (h5 h)
      · exact .inl (by simpa using h)
    · by_cases h : r.epoch = g.epoch
      · exact .inr (h6 h)
      · exact .inl h

theorem goodGr_is (s : Gr) : goodGr s = goodI s := by
  rw [Bool.eq_iff_iff]
  unfold goodGr goodI headGr headI
  simp only [Bool.and_eq_true, decide_eq_true_eq]
  constructor
  · rintro ⟨⟨h1, h2, h3, h4, h5⟩, h6⟩
    have hm : s.leader ∈ s.steps := by simpa using h4
    have hl := rise_mem h3 hm
    refine ⟨⟨h1, h2, inB_t.2 ⟨hl.1, by omega⟩⟩, fun i hi => (okRp_iff.1 (h6 i hi)).1, h3, h4, ?_⟩
    rw [List.all_eq_true]
    intro z hz
    have hz2 := rise_mem h3 hz
    have h7 := (okRp_iff.1 (h6 z.toNat (by omega))).2 (by rw [show ((z.toNat : Nat) : Int) = z by omega]; exact hz)
    unfold hiB
    rw [sameN_comm]
    exact inB_t.2 ⟨h5, h7⟩
  · rintro ⟨⟨h1, h2, h0⟩, h3, h4, h5, h6⟩
    rw [List.all_eq_true] at h6
    have hm : s.leader ∈ s.steps := by simpa using h5
    refine ⟨⟨h1, h2, h4, h5, (inB_t.1 (h6 _ hm)).1⟩, fun i hi => okRp_iff.2 ⟨h3 i hi, fun h => ?_⟩⟩
    have h7 := h6 _ h
    unfold hiB at h7
    rw [sameN_comm] at h7
    exact (inB_t.1 h7).2

theorem goodI_head {s : Gr} (h : headI s = false) : goodGr s = false := by rw [goodGr_is]; simp [goodI, h]
theorem goodI_rp {s : Gr} {k : Nat} {r : Rp} (hr : s.reps[k]? = some r) (h : okRI s.epoch (leadL s) r = false) : goodGr s = false := by
  have hk := (List.getElem?_eq_some_iff.1 hr).1
  have : ¬ okRA s.epoch (leadL s) s.reps := fun g2 => by have := g2 k hk; rw [rpA_some hr, h] at this; cases this
  rw [goodGr_is]; simp [goodI, this]
theorem goodI_rise {s : Gr} (h : riseB s.steps s.reps.length = false) : goodGr s = false := by rw [goodGr_is]; simp [goodI, h]
theorem goodI_has {s : Gr} (h : s.steps.contains s.leader = false) : goodGr s = false := by rw [goodGr_is]; unfold goodI; rw [h]; simp
theorem goodI_high {s : Gr} (h : s.steps.all (hiB s) = false) : goodGr s = false := by rw [goodGr_is]; unfold goodI; rw [h]; simp
theorem goodI_done {s : Gr} (h1 : headI s = true) (h2 : okRTo s.epoch (leadL s) s.reps s.reps.length) (h3 : riseB s.steps s.reps.length = true) (h4 : s.steps.contains s.leader = true) (h5 : s.steps.all (hiB s) = true) : goodGr s = true := by
  have h2' : okRA s.epoch (leadL s) s.reps := h2
  rw [goodGr_is]; unfold goodI; rw [h1, h3, h4, h5, decide_eq_true h2']; rfl

end Go.Proofs.YtkhbgdnhkaeamaaDoor
