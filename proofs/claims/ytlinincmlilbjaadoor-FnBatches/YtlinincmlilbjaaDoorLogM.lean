/-
  The mathematics of FnLogs: a good log's bytes are read as the log; a part of them from the front as its first batches, as many as lie in it whole.
-/
import Derived.Test.YtlinincmlilbjaaDoorRead
import Derived.Test.YtlinincmlilbjaaDoorLogEnc
namespace Go.Proofs.YtlinincmlilbjaaDoor
open Go.RowKit

theorem encB_len (b : Bt) : (encB b).length = 14 + recLen b.recs := bytesOf_length _ _ _ _ _

theorem encB_front {b : Bt} (hg : b.good = true) : 2 + val ((encB b).take 2) = (encB b).length := by
  obtain ⟨o, e, p, q, ss⟩ := b
  obtain ⟨_, _, _, _, _, _, _, _, _, _, _, _, h1, h2, h3⟩ := good_all hg
  have hr := recLen_le ss h3
  have e1 : (encB ⟨o, e, p, q, ss⟩).take 2 = be 2 ((bodyOf o.toNat e.toNat p.toNat q.toNat ss).length + 2) := by
    unfold encB bytesOf frontOf
    rw [List.append_assoc]
    exact List.take_left' (be_length _ _)
  rw [e1, val_be _ _ (by rw [bodyOf_length]; omega), encB_len, bodyOf_length]
  simp only
  omega

theorem encB_ge (b : Bt) : 14 ≤ (encB b).length := by rw [encB_len]; omega

/-- Where a good batch's bytes stand, it is taken. -/
theorem take_head {l rest : List UInt8} {n : Nat} {b : Bt} (hg : b.good = true) (h : l.drop n = encB b ++ rest) : specTake l n = some (b, n + (encB b).length) := by
  have h14 := encB_ge b
  have e2 : (l.drop n).take 2 = (encB b).take 2 := by
    rw [h, List.take_append_of_le_length (by omega)]
  have e3 : lenOf (l.drop n) = (encB b).length := by
    unfold lenOf; rw [e2]; exact encB_front hg
  have e4 : specDec (l.drop n) = some b := by
    rw [specDec_iff]
    refine ⟨hg, ?_⟩
    have : 2 + val ((l.drop n).take 2) = (encB b).length := e3
    rw [this, h, List.take_left' rfl]
  unfold specTake
  rw [e3, e4, if_pos (by rw [h, List.length_append]; omega)]
  rfl

/-- Where less than a batch's bytes stand, none is taken. -/
theorem take_cut {l rest : List UInt8} {n j : Nat} {b : Bt} (hg : b.good = true) (hj : j < (encB b).length) (h : l.drop n = (encB b ++ rest).take j) : specTake l n = none := by
  unfold specTake
  rw [if_neg]
  intro ⟨h1, h2⟩
  have hl : (l.drop n).length ≤ j := by rw [h, List.length_take]; omega
  have e2 : (l.drop n).take 2 = (encB b).take 2 := by
    rw [h, List.take_take, Nat.min_eq_left (by omega), List.take_append_of_le_length (by omega)]
  have e3 : lenOf (l.drop n) = (encB b).length := by
    unfold lenOf; rw [e2]; exact encB_front hg
  omega

/-- How many bytes batches have. -/
def lnB (bs : List Bt) : Nat := (logBytes bs).length

theorem lnB_cons (b : Bt) (r : List Bt) : lnB (b :: r) = (encB b).length + lnB r := by
  simp only [lnB, logBytes, List.flatMap_cons, List.length_append]
  rfl

theorem logBytes_cons (b : Bt) (r : List Bt) : logBytes (b :: r) = encB b ++ logBytes r := by
  simp only [logBytes, List.flatMap_cons]
  rfl

/-- What is read where the first j bytes of a log stand. -/
theorem read_prefix (l : List UInt8) : ∀ (bs : List Bt) (p : Option Bt) (n j k : Nat), goodFrom p bs = true → l.drop n = (logBytes bs).take j → l.length < n + k →
    ∃ m, m ≤ bs.length ∧ readR l k p n = (bs.take m, n + lnB (bs.take m)) ∧ lnB (bs.take m) ≤ j ∧ ∀ b, bs[m]? = some b → j < lnB (bs.take m) + (encB b).length
  | [], p, n, j, k, _, h, hk => by
    refine ⟨0, Nat.le_refl _, ?_, Nat.zero_le _, fun b hb => by simp at hb⟩
    have hd : l.drop n = [] := by rw [h]; simp [logBytes]
    have : specTake l n = none := by
      unfold specTake
      rw [hd, if_neg (by simp)]
    cases k with
    | zero => rfl
    | succ k => simp [readR, this, lnB, logBytes]
  | b :: r, p, n, j, k, hg, h, hk => by
    rw [goodFrom, Bool.and_eq_true, Bool.and_eq_true] at hg
    obtain ⟨⟨g1, g2⟩, g3⟩ := hg
    rw [logBytes_cons] at h
    by_cases hj : j < (encB b).length
    · refine ⟨0, Nat.zero_le _, ?_, Nat.zero_le _, fun c hc => ?_⟩
      · have := take_cut g1 hj h
        cases k with
        | zero => rfl
        | succ k => simp [readR, this, lnB, logBytes]
      · simp at hc
        subst hc
        simpa [lnB, logBytes] using hj
    · have hj' : (encB b).length ≤ j := by omega
      have h' : l.drop n = encB b ++ (logBytes r).take (j - (encB b).length) := by
        rw [h, List.take_append, List.take_of_length_le hj']
      have ht := take_head g1 h'
      have h14 := encB_ge b
      have hnl : n + (encB b).length ≤ l.length := by
        have := congrArg List.length h'
        rw [List.length_drop, List.length_append] at this
        omega
      have hd : l.drop (n + (encB b).length) = (logBytes r).take (j - (encB b).length) := by
        rw [← List.drop_drop, h', List.drop_left' rfl]
      cases k with
      | zero => omega
      | succ k =>
        obtain ⟨m, m1, m2, m3, m4⟩ := read_prefix l r (some b) (n + (encB b).length) (j - (encB b).length) k g3 hd (by omega)
        refine ⟨m + 1, by simpa using m1, ?_, ?_, fun c hc => ?_⟩
        · simp only [readR, ht, g2, if_true, m2, List.take_succ_cons, lnB_cons, Nat.add_assoc]
        · rw [List.take_succ_cons, lnB_cons]; omega
        · have := m4 c (by simpa using hc)
          rw [List.take_succ_cons, lnB_cons]; omega

/-- The first j bytes of a good log. -/
theorem readL_cut {bs : List Bt} (hg : goodLog bs = true) (j : Nat) : ∃ m, m ≤ bs.length ∧ readL ((logBytes bs).take j) = (bs.take m, lnB (bs.take m)) ∧ lnB (bs.take m) ≤ j ∧ ∀ b, bs[m]? = some b → j < lnB (bs.take m) + (encB b).length := by
  obtain ⟨m, m1, m2, m3, m4⟩ := read_prefix ((logBytes bs).take j) bs none 0 j (((logBytes bs).take j).length + 1) hg rfl (by omega)
  exact ⟨m, m1, by unfold readL; rw [m2, Nat.zero_add], m3, m4⟩

/-- A good log's bytes are read as the log. -/
theorem readL_whole {bs : List Bt} (hg : goodLog bs = true) : readL (logBytes bs) = (bs, (logBytes bs).length) := by
  obtain ⟨m, m1, m2, m3, m4⟩ := readL_cut hg (logBytes bs).length
  rw [List.take_length] at m2
  have hm : m = bs.length := by
    rcases Nat.lt_or_eq_of_le m1 with h | h
    · obtain ⟨b, hb⟩ := getBt h
      have h1 := m4 b hb
      have h2 : logBytes (bs.take m) ++ encB b = logBytes (bs.take (m + 1)) := (logBytes_succ hb).symm
      have h3 : logBytes bs = logBytes (bs.take (m + 1)) ++ logBytes (bs.drop (m + 1)) := by
        unfold logBytes
        rw [← List.flatMap_append, List.take_append_drop]
      have h4 := congrArg List.length h2
      have h5 := congrArg List.length h3
      rw [List.length_append] at h4 h5
      unfold lnB at h1
      omega
    · exact h
  rw [m2, hm, List.take_length]
  rfl

end Go.Proofs.YtlinincmlilbjaaDoor
