/-
  Groups that read, the program's order of asking, in plain mathematics.
-/
import Derived.Test.YtgiekkipkgdjaaaRgS
namespace Go.Proofs.Ytgiekkipkgdjaaa
open Go.RowKit

/-- Each of some numbers up to that of others. -/
def eachTo (xs es : List Int) (k : Nat) : Prop := ∀ i, i < k → inB (zA xs i) 0 (zA es i) = true
instance (xs es : List Int) (k : Nat) : Decidable (eachTo xs es k) := by unfold eachTo; infer_instance
theorem eachTo_succ {xs es : List Int} {k : Nat} (h : eachTo xs es k) (hk : inB (zA xs k) 0 (zA es k) = true) : eachTo xs es (k + 1) := fun i hi => by
  rcases Nat.lt_or_eq_of_le (Nat.le_of_lt_succ hi) with h1 | rfl
  · exact h i h1
  · exact hk
def eachB (xs es : List Int) : Bool := decide (xs.length = es.length) && decide (eachTo xs es xs.length)
theorem eachB_len {xs es : List Int} (h : ¬ xs.length = es.length) : eachB xs es = false := by simp [eachB, h]
theorem eachB_bad {xs es : List Int} {k : Nat} (hk : k < xs.length) (h : inB (zA xs k) 0 (zA es k) = false) : eachB xs es = false := by
  have : ¬ eachTo xs es xs.length := fun g => by have := g k hk; rw [h] at this; cases this
  simp [eachB, this]
theorem eachB_done {xs es : List Int} (h : xs.length = es.length) (h2 : eachTo xs es xs.length) : eachB xs es = true := by
  rw [eachB, decide_eq_true h, decide_eq_true h2]; rfl
theorem eachB_is {xs es : List Int} (h : eachB xs es = true) : xs.length = es.length ∧ eachTo xs es xs.length := by
  simpa only [eachB, Bool.and_eq_true, decide_eq_true_eq] using h
theorem eachB_not {xs es : List Int} (h : eachB xs es = false) : ¬ xs.length = es.length ∨ ∃ k, k < xs.length ∧ inB (zA xs k) 0 (zA es k) = false := by
  by_cases h1 : xs.length = es.length
  · right
    by_cases h2 : ∃ k, k < xs.length ∧ inB (zA xs k) 0 (zA es k) = false
    · exact h2
    · have : eachB xs es = true := eachB_done h1 fun i hi => by
        cases g : inB (zA xs i) 0 (zA es i) with
        | true => rfl
        | false => exact absurd ⟨i, hi, g⟩ h2
      rw [this] at h; cases h
  · exact .inl h1

/-- All of some numbers from 0 up to one. -/
def capB (hi : Int) (l : List Int) : Bool := l.all fun n => inB n 0 hi
def pEnds (es : List Int) : Bool := inB es.length 1 6 && capB 100 es
theorem capB_at {hi : Int} {l : List Int} (h : capB hi l = true) {i : Nat} (hi' : i < l.length) : inB (zA l i) 0 hi = true := by
  have := List.all_eq_true.1 h (zA l i) (List.mem_of_getElem? (zA_get hi'))
  exact this
theorem capB_not {hi : Int} {l : List Int} (h : capB hi l = false) : ∃ i, i < l.length ∧ inB (zA l i) 0 hi = false := by
  by_cases h2 : ∃ k, k < l.length ∧ inB (zA l k) 0 hi = false
  · exact h2
  · have : capB hi l = true := List.all_eq_true.2 fun x hx => by
      obtain ⟨i, hi', rfl⟩ := List.getElem_of_mem hx
      cases g : inB l[i] 0 hi with
      | true => rfl
      | false => exact absurd ⟨i, hi', by rw [show zA l i = l[i] by simp [zA, List.getD_eq_getElem?_getD, hi']]; exact g⟩ h2
    rw [this] at h; cases h

/-- Rising lists: who is in one of the same length that has all of another is the same. -/
theorem sub_of_rise : ∀ {a b : List Int}, a.Pairwise (· < ·) → b.Pairwise (· < ·) → (∀ x ∈ b, x ∈ a) → b.Sublist a
  | [], [], _, _, _ => List.Sublist.slnil
  | [], x :: b, _, _, h => absurd (h x (List.mem_cons_self ..)) (by simp)
  | y :: a, [], _, _, _ => List.nil_sublist _
  | y :: a, x :: b, ha, hb, h => by
    rw [List.pairwise_cons] at ha
    have hb' := List.pairwise_cons.1 hb
    rcases List.mem_cons.1 (h x (List.mem_cons_self ..)) with rfl | hx
    · refine List.Sublist.cons_cons _ (sub_of_rise ha.2 hb'.2 fun z hz => ?_)
      rcases List.mem_cons.1 (h z (List.mem_cons_of_mem _ hz)) with rfl | hz2
      · exact absurd (hb'.1 _ hz) (by omega)
      · exact hz2
    · refine List.Sublist.cons _ (sub_of_rise ha.2 hb fun z hz => ?_)
      rcases List.mem_cons.1 (h z hz) with rfl | hz2
      · rcases List.mem_cons.1 hz with e | hz3
        · exact absurd (ha.1 _ hx) (by omega)
        · have := hb'.1 _ hz3
          have := ha.1 _ hx
          omega
      · exact hz2

theorem pair_of_rise {l : List Int} {many : Int} (h : riseB l many = true) : l.Pairwise (· < ·) := by
  have h1 := riseB_t.1 h
  have h2 : ∀ j, j < l.length → ∀ i, i < j → zA l i < zA l j := by
    intro j
    induction j with
    | zero => intro _ i hi; omega
    | succ j ih =>
      intro hj i hi
      have h3 : zA l j < zA l (j + 1) := by
        have := (h1 (j + 1) hj).2.2 (by omega)
        simpa using this
      rcases Nat.lt_or_eq_of_le (Nat.le_of_lt_succ hi) with h4 | rfl
      · have := ih (by omega) i h4; omega
      · exact h3
  rw [List.pairwise_iff_getElem]
  intro i j hi hj hij
  have := h2 j hj i hij
  simpa [zA, List.getD_eq_getElem?_getD, hi, hj] using this

theorem shTo_pair (m pl : Nat) : ∀ p, (shTo m pl p).Pairwise (· < ·) ∧ ∀ x ∈ shTo m pl p, x < (p : Int)
  | 0 => ⟨List.Pairwise.nil, fun x hx => by simp [shTo] at hx⟩
  | p + 1 => by
    obtain ⟨h1, h2⟩ := shTo_pair m pl p
    rw [shTo]
    split
    · refine ⟨List.pairwise_append.2 ⟨h1, by simp, fun a ha b hb => ?_⟩, fun x hx => ?_⟩
      · rw [List.mem_singleton] at hb; subst hb; exact h2 a ha
      · rcases List.mem_append.1 hx with h | h
        · have := h2 x h; omega
        · rw [List.mem_singleton] at h; omega
    · rw [List.append_nil]
      exact ⟨h1, fun x hx => by have := h2 x hx; omega⟩

theorem sameB_eq {a : List Int} {many : Int} {g : Rg} {k : Nat} (h : riseB a many = true) : sameB a (shareL g k) = decide (a = shareL g k) := by
  rw [Bool.eq_iff_iff, decide_eq_true_eq]
  constructor
  · intro h1
    simp only [sameB, Bool.and_eq_true, decide_eq_true_eq] at h1
    have h2 : ∀ x ∈ shareL g k, x ∈ a := fun x hx => by
      have := List.all_eq_true.1 h1.1 x hx
      exact List.contains_iff_mem.1 this
    exact ((sub_of_rise (pair_of_rise h) (shTo_pair _ _ _).1 h2).eq_of_length h1.2.symm).symm
  · intro h1
    rw [← h1]
    simp only [sameB, hasL, Bool.and_eq_true, decide_eq_true_eq, and_true]
    exact List.all_eq_true.2 fun x hx => List.contains_iff_mem.2 hx

/-- Whether what one has read is of its share, or nothing. -/
def okSk (x : Rx) (p : Nat) : Bool := decide (zA x.read p = 0) || x.share.contains (p : Int)
def skTo (x : Rx) (k : Nat) : Prop := ∀ i, i < k → okSk x i = true
theorem skTo_succ {x : Rx} {k : Nat} (h : skTo x k) (hk : okSk x k = true) : skTo x (k + 1) := fun i hi => by
  rcases Nat.lt_or_eq_of_le (Nat.le_of_lt_succ hi) with h1 | rfl
  · exact h i h1
  · exact hk

theorem okI_1 {g : Rg} {k : Nat} {x : Rx} (h : riseB x.share g.ends.length = false) : okRx g k x = false := okRx_1 (by simp [firstRx, h])
theorem okI_2 {g : Rg} {k : Nat} {x : Rx} (h : inB x.gen 0 g.gen = false) : okRx g k x = false := okRx_1 (by simp [firstRx, h])
theorem okI_3 {g : Rg} {k : Nat} {x : Rx} (h : eachB x.read g.ends = false) : okRx g k x = false := by
  rcases eachB_not h with h1 | ⟨p, hp, h1⟩
  · exact okRx_1 (by simp [firstRx, h1])
  · exact okRx_2 hp (by simp [okRead, h1])
theorem okI_4 {g : Rg} {k : Nat} {x : Rx} {p : Nat} (hp : p < x.read.length) (h : okSk x p = false) : okRx g k x = false := by
  simp only [okSk, Bool.or_eq_false_iff] at h
  exact okRx_2 hp (by simp only [okRead, h.1, h.2]; simp)
theorem okI_read {g : Rg} {x : Rx} (h3 : eachB x.read g.ends = true) (h4 : skTo x x.read.length) : readTo g x x.read.length := fun i hi => by
  have a := (eachB_is h3).2 i hi
  have b := h4 i hi
  simp only [okSk] at b
  simp only [okRead, a, Bool.true_and]
  rw [Bool.or_comm]; exact b
theorem okI_out {g : Rg} {k : Nat} {x : Rx} (h1 : riseB x.share g.ends.length = true) (h2 : inB x.gen 0 g.gen = true) (h3 : eachB x.read g.ends = true) (h4 : skTo x x.read.length) (h5 : x.inn = false) : okRx g k x = (decide (x.gen = 0) && decide (x.share.length = 0)) := by
  cases h6 : (decide (x.gen = 0) && decide (x.share.length = 0)) with
  | false => exact okRx_1 (by simp only [firstRx, h5, h6]; simp)
  | true => rw [okRx_3 (by simp only [firstRx, h1, h2, (eachB_is h3).1, h5, h6]; simp) (okI_read h3 h4)]; simp [lastRx, h5]
theorem okI_in {g : Rg} {k : Nat} {x : Rx} (h1 : riseB x.share g.ends.length = true) (h2 : inB x.gen 0 g.gen = true) (h3 : eachB x.read g.ends = true) (h4 : skTo x x.read.length) (h5 : x.inn = true) : okRx g k x = (!decide (x.gen = g.gen) || decide (x.share = shareL g k)) := by
  rw [okRx_3 (by simp only [firstRx, h1, h2, (eachB_is h3).1, h5]; simp) (okI_read h3 h4), lastRx, h5, sameB_eq h1]; simp

theorem goodI_1 {g : Rg} (h : inB g.rds.length 1 5 = false) : goodRg g = false := goodRg_1 (by simp [headRg, h])
theorem goodI_2 {g : Rg} (h : pEnds g.ends = false) : goodRg g = false := by
  cases h1 : inB g.ends.length 1 6 with
  | false => exact goodRg_1 (by simp [headRg, h1])
  | true =>
    rw [pEnds, h1, Bool.true_and] at h
    obtain ⟨i, hi, h2⟩ := capB_not h
    exact goodRg_2 hi (by simp [okEnd, h2])
theorem goodI_3 {g : Rg} (h : inB g.gen 0 1000 = false) : goodRg g = false := goodRg_1 (by simp [headRg, h])
theorem goodI_4 {g : Rg} (h : eachB g.com g.ends = false) : goodRg g = false := by
  by_cases h1 : g.com.length = g.ends.length
  · rcases eachB_not h with h2 | ⟨p, hp, h2⟩
    · exact absurd h1 h2
    · exact goodRg_2 (p := p) (by omega) (by simp [okEnd, h2])
  · exact goodRg_1 (by simp [headRg, h1])
theorem goodI_5 {g : Rg} (h1 : inB g.rds.length 1 5 = true) (h2 : pEnds g.ends = true) (h3 : inB g.gen 0 1000 = true) (h4 : eachB g.com g.ends = true) (h5 : rdsTo g g.rds.length) : goodRg g = true := by
  simp only [pEnds, Bool.and_eq_true] at h2
  have h6 := (eachB_is h4).1
  refine goodRg_4 (by simp only [headRg, h1, h2.1, h3, decide_eq_true h6]; rfl) (fun p hp => ?_) h5
  simp only [okEnd, capB_at h2.2 hp, Bool.true_and]
  exact (eachB_is h4).2 p (by omega)

end Go.Proofs.Ytgiekkipkgdjaaa
