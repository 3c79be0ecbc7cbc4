/-
  The control in plain mathematics, as the program asks: who lives of some, who leads a part, good brokers, parts and controls in the program's order.
-/
import Derived.Test.YtfehndedkffpfaaDoorCtM
import Derived.Test.YtfehndedkffpfaaDoorCtS0
namespace Go.Proofs.YtfehndedkffpfaaDoor
open Go.RowKit

def livF (brs : List Br) (l : List Int) : List Int := l.filter (live brs)
theorem livF_len (brs : List Br) (l : List Int) : (livF brs l).length ≤ l.length := List.length_filter_le _ _
theorem livF_t {brs : List Br} {l : List Int} {k : Nat} {z : Int} (h : l[k]? = some z) (hz : live brs z = true) : livF brs (l.take (k + 1)) = livF brs (l.take k) ++ [z] := by
  rw [List.take_add_one, h]; simp [livF, hz]
theorem livF_f {brs : List Br} {l : List Int} {k : Nat} {z : Int} (h : l[k]? = some z) (hz : live brs z = false) : livF brs (l.take (k + 1)) = livF brs (l.take k) := by
  rw [List.take_add_one, h]; simp [livF, hz]

/-- Who leads a part whose own in step are told. -/
def ldrI (brs : List Br) (z : Int) (l : List Int) : Int := match livF brs l with
  | [] => -1
  | x :: y => if (x :: y).contains z = true then z else x
theorem ldrI_nil {brs : List Br} {z : Int} {l : List Int} (h : livF brs l = []) : ldrI brs z l = -1 := by simp [ldrI, h]
theorem ldrI_in {brs : List Br} {z : Int} {l : List Int} (h : (livF brs l).contains z = true) : ldrI brs z l = z := by
  unfold ldrI
  cases hq : livF brs l with
  | nil => rw [hq] at h; simp at h
  | cons x y => rw [hq] at h; exact if_pos h
theorem ldrI_out {brs : List Br} {z x : Int} {l y : List Int} (hq : livF brs l = x :: y) (h : (livF brs l).contains z = false) : ldrI brs z l = x := by
  unfold ldrI
  rw [hq] at h ⊢
  exact if_neg (by rw [h]; simp)

def okBI (nx : Int) (b : Br) : Bool := inB b.epoch 0 (nx - 1) && (inB b.left 0 9 && ((decide (0 < b.epoch) || (b.left == 0)) && (b.fenced == (b.left == 0))))
theorem okBr_is (nx : Int) (b : Br) : okBr nx b = okBI nx b := by
  have e1 : inB b.epoch 0 (nx - 1) = (decide (0 ≤ b.epoch) && decide (b.epoch < nx)) := by rw [Bool.eq_iff_iff, inB_t, Bool.and_eq_true, decide_eq_true_eq, decide_eq_true_eq]; omega
  have e2 : decide (b.left = 0) = (b.left == 0) := by rw [Bool.eq_iff_iff]; simp
  unfold okBr okBI
  rw [e1, e2]
  cases h1 : decide (0 ≤ b.epoch) with
  | false => simp
  | true =>
    cases h2 : decide (b.epoch < nx) with
    | false => simp
    | true =>
      cases h3 : inB b.left 0 9 with
      | false => simp
      | true =>
        have h4 := inB_t.1 h3
        have h5 := of_decide_eq_true h1
        have e3 : (!(decide (b.epoch = 0) && decide (0 < b.left))) = (decide (0 < b.epoch) || (b.left == 0)) := by
          rw [Bool.eq_iff_iff]; simp only [Bool.not_eq_true', Bool.and_eq_false_iff, decide_eq_false_iff_not, Bool.or_eq_true, decide_eq_true_eq, beq_iff_eq]; omega
        rw [e3]
        simp only [Bool.true_and]
        exact Bool.and_comm _ _

def okPI (brs : List Br) (p : Pn) : Bool :=
  riseB p.homes brs.length && (riseB p.steps brs.length && (decide (0 < p.steps.length) && (hasL p.homes p.steps && (inB p.epoch 0 1000 && (inB p.stamp 0 1000 && (p.leader == ldrI brs p.leader p.steps))))))

theorem ldOk_is {brs : List Br} {p : Pn} (h : ∀ z, z ∈ p.steps → 0 ≤ z) : ldOk brs p = (p.leader == ldrI brs p.leader p.steps) := by
  have hm : ∀ z, z ∈ livF brs p.steps ↔ z ∈ p.steps ∧ live brs z = true := fun z => by simp [livF]
  unfold ldOk
  cases hq : livF brs p.steps with
  | nil =>
    rw [ldrI_nil hq]
    have ha : p.steps.any (live brs) = false := by
      rw [List.any_eq_false]
      intro z hz hl
      have := (hm z).2 ⟨hz, hl⟩
      rw [hq] at this; simp at this
    by_cases hd : p.leader = -1
    · rw [if_pos hd, ha, hd]; rfl
    · rw [if_neg hd]
      have : (p.steps.contains p.leader && live brs p.leader) = false := by
        rw [Bool.eq_false_iff]
        intro hx
        rw [Bool.and_eq_true, List.contains_iff_mem] at hx
        have := (hm _).2 hx
        rw [hq] at this; simp at this
      rw [this]; symm; simpa using hd
  | cons x y =>
    have hx : x ∈ livF brs p.steps := by rw [hq]; simp
    have hx0 := h x ((hm x).1 hx).1
    cases hc : (livF brs p.steps).contains p.leader with
    | true =>
      rw [ldrI_in hc]
      have hmem := (hm _).1 (List.contains_iff_mem.1 hc)
      have h0 := h _ hmem.1
      rw [if_neg (by omega)]
      simp [hmem.1, hmem.2]
    | false =>
      rw [ldrI_out hq hc]
      have hnm : p.leader ∉ livF brs p.steps := fun hi => by rw [List.contains_iff_mem.2 hi] at hc; cases hc
      have hne : p.leader ≠ x := fun e => hnm (e ▸ hx)
      have e1 : (p.leader == x) = false := by simpa using hne
      rw [e1]
      by_cases hd : p.leader = -1
      · rw [if_pos hd]
        have : p.steps.any (live brs) = true := List.any_eq_true.2 ⟨x, ((hm x).1 hx).1, ((hm x).1 hx).2⟩
        rw [this]; rfl
      · rw [if_neg hd, Bool.eq_false_iff]
        intro hz
        rw [Bool.and_eq_true, List.contains_iff_mem] at hz
        exact hnm ((hm _).2 hz)

theorem okPn_is (brs : List Br) (p : Pn) : okPn brs p = okPI brs p := by
  unfold okPn okPI
  cases h2 : riseB p.homes brs.length with
  | false => simp
  | true =>
    cases h3 : riseB p.steps brs.length with
    | false => simp
    | true =>
      have e2 : (!decide (p.steps.length = 0)) = decide (0 < p.steps.length) := by rw [Bool.eq_iff_iff]; simp only [Bool.not_eq_true', decide_eq_false_iff_not, decide_eq_true_eq]; omega
      rw [e2]
      cases h4 : decide (0 < p.steps.length) with
      | false => simp
      | true =>
        cases h5 : hasL p.homes p.steps with
        | false => simp
        | true =>
          have h6 := of_decide_eq_true h4
          have e1 : (!decide (p.homes.length = 0)) = true := by
            simp only [Bool.not_eq_true', decide_eq_false_iff_not]
            intro h0
            obtain ⟨z, hz⟩ := List.exists_mem_of_length_pos h6
            have := List.all_eq_true.1 h5 z hz
            rw [List.length_eq_zero_iff.1 h0] at this
            simp at this
          rw [e1, ldOk_is (fun z hz => (rise_mem h3 hz).1)]
          simp only [Bool.true_and]
          cases inB p.epoch 0 1000 <;> cases inB p.stamp 0 1000 <;> cases (p.leader == ldrI brs p.leader p.steps) <;> rfl

theorem goodCt_is (s : Ct) : goodCt s = (inB s.brks.length 1 6 && (decide (s.parts.length ≤ 5) && (inB s.next 1 1000 && (s.brks.all (okBr s.next) && s.parts.all (okPn s.brks))))) := by
  unfold goodCt midCt
  cases s.brks.all (okBr s.next) <;> cases inB s.brks.length 1 6 <;> cases decide (s.parts.length ≤ 5) <;> cases inB s.next 1 1000 <;> simp

theorem riseZ_at {l : List Int} {m : Int} (h : riseB l m = true) : ∀ k, k < l.length → (k : Int) ≤ zA l k
  | 0, hk => (riseB_t.1 h 0 hk).1
  | k + 1, hk => by
    have h1 := riseZ_at h k (by omega)
    have h2 := (riseB_t.1 h (k + 1) hk).2.2 (by omega)
    simp only [Nat.add_sub_cancel] at h2
    omega
theorem riseZ_len {l : List Int} {m : Nat} (h : riseB l m = true) : l.length ≤ m := by
  cases hl : l.length with
  | zero => omega
  | succ k =>
    have h1 := riseZ_at h k (by omega)
    have h2 := (riseB_t.1 h k (by omega)).2.1
    omega

theorem hasR {p : Pn} {n : Nat} (hn : n ≤ 7) (h1 : riseB p.homes n = true) (h2 : riseB p.steps n = true) : (wo (msk p.steps) (msk p.homes) == 0) = hasL p.homes p.steps := (has_msk (many := (n : Int)) (by omega) h1 h2).symm

end Go.Proofs.YtfehndedkffpfaaDoor
