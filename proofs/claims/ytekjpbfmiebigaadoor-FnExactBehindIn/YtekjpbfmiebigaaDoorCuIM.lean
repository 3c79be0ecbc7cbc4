/-
  Clusters in the order in which the program asks. By hand.
-/
import Derived.Test.YtekjpbfmiebigaaDoorCuI2
namespace Go.Proofs.YtekjpbfmiebigaaDoor
open Go.RowKit

theorem sameN_take : ∀ {a l : List Rw}, sameN a l = a.length → ∀ {i : Nat}, i < a.length → rwA a i = rwA l i ∧ i < l.length
  | [], _, _, i, hi => by simp at hi
  | x :: xs, [], h, i, hi => by simp [sameN] at h
  | x :: xs, y :: ys, h, i, hi => by
    rw [sameN] at h
    split at h
    · rename_i e
      subst e
      have h' : sameN xs ys = xs.length := by simpa using h
      cases i with
      | zero => exact ⟨rfl, by simp⟩
      | succ i =>
        obtain ⟨g1, g2⟩ := sameN_take h' (i := i) (by simpa using hi)
        exact ⟨by simpa [rwA] using g1, by simpa using g2⟩
    · simp at h

theorem rlogB_pre {a l : List Rw} {e e2 : Int} (h : sameN a l = a.length) (hl : rlogB l e = true) (he : e ≤ e2) : rlogB a e2 = true := by
  simp only [rlogB, Bool.and_eq_true, decide_eq_true_eq] at hl ⊢
  have hle := (sameN_le a l).2
  rw [h] at hle
  refine ⟨fun i hi => ?_, by omega⟩
  obtain ⟨g1, g2⟩ := sameN_take h hi
  obtain ⟨h1, h2, h3⟩ := hl.1 i g2
  rw [← g1] at h1 h2 h3
  have h1' := inB_t.1 h1
  refine ⟨inB_t.2 ⟨h1'.1, by omega⟩, h2, fun h0 => ?_⟩
  have := h3 h0
  rw [← (sameN_take h (show i - 1 < a.length by omega)).1] at this
  exact this

theorem okNd_iff {c : Cu} {k : Nat} {x : Nd} : okNd c k x = true ↔ okNI c k x = true ∧ (c.tst.contains (k : Int) = true → sameN c.acked x.log = c.acked.length) := by
  have hm : ((decide (x.epoch ≤ c.tep) && (!(x.epoch == c.tep) || (x.leader == c.tld))) = true) ↔ ((decide (x.epoch < c.tep) || (x.epoch == c.tep && x.leader == c.tld)) = true) := by
    simp only [Bool.and_eq_true, Bool.or_eq_true, decide_eq_true_eq, Bool.not_eq_true', beq_eq_false_iff_ne, beq_iff_eq, ne_eq]
    constructor
    · rintro ⟨h1, h2 | h2⟩
      · exact .inl (by omega)
      · by_cases h3 : x.epoch = c.tep
        · exact .inr ⟨h3, h2⟩
        · exact .inl (by omega)
    · rintro (h1 | ⟨h1, h2⟩)
      · exact ⟨by omega, .inl (by omega)⟩
      · exact ⟨by omega, .inr h2⟩
  have hkn : (x.known.all (knOk (thinks k x) x.log.length) = true) ↔ (capB ((if thinks k x = true then x.log.length else 0 : Nat) : Int) x.known = true) := by
    simp only [capB, List.all_eq_true]
    constructor
    · intro h z hz
      have := h z hz
      simp only [knOk, Bool.and_eq_true, Bool.or_eq_true, decide_eq_true_eq] at this
      obtain ⟨g1, g2, g3⟩ := this
      refine inB_t.2 ⟨g1, ?_⟩
      split
      · exact g2
      · rename_i hn
        rcases g3 with g3 | g3
        · exact absurd g3 hn
        · simp [g3]
    · intro h z hz
      have := inB_t.1 (h z hz)
      simp only [knOk, Bool.and_eq_true, Bool.or_eq_true, decide_eq_true_eq]
      split at this
      · rename_i hn
        exact ⟨this.1, this.2, .inl hn⟩
      · have h2 : z ≤ 0 := by simpa using this.2
        exact ⟨this.1, by omega, .inr (by omega)⟩
  have ht : ((decide (0 ≤ x.told) = true) ∧ (decide (x.told ≤ (x.log.length : Int)) = true)) ↔ inB x.told 0 x.log.length = true := by
    simp only [decide_eq_true_eq]
    exact ⟨fun h => inB_t.2 h, fun h => inB_t.1 h⟩
  have hl : ((!c.tst.contains (k : Int) || decide (sameN c.acked x.log = c.acked.length)) = true) ↔ (c.tst.contains (k : Int) = true → sameN c.acked x.log = c.acked.length) := by
    cases c.tst.contains (k : Int) <;> simp
  unfold okNd okNI
  rw [Bool.and_eq_true] at hm
  simp only [Bool.and_eq_true]
  constructor
  · rintro ⟨a1, a2, a3, a4, a5, a6, a7, a8, a9⟩
    exact ⟨⟨a1, hm.1 ⟨a2, a3⟩, a4, a5, hkn.1 a8, ht.1 ⟨a6, a7⟩⟩, hl.1 a9⟩
  · rintro ⟨⟨a1, a2, a4, a5, a8, a6⟩, a9⟩
    exact ⟨a1, (hm.2 a2).1, (hm.2 a2).2, a4, a5, (ht.2 a6).1, (ht.2 a6).2, hkn.2 a8, hl.2 a9⟩

def ndITo (c : Cu) (k : Nat) : Prop := ∀ i, i < k → okNI c i (ndA c.nodes i) = true
theorem ndITo_succ {c : Cu} {k : Nat} {r : Nd} (h : ndITo c k) (hr : c.nodes[k]? = some r) (hk : okNI c k r = true) : ndITo c (k + 1) := fun i hi => by
  rcases Nat.lt_or_eq_of_le (Nat.le_of_lt_succ hi) with h1 | rfl
  · exact h i h1
  · rw [ndA_some hr]; exact hk
def ackOk (c : Cu) (z : Int) : Bool := decide (sameN c.acked (ndA c.nodes z.toNat).log = c.acked.length)

theorem goodI_n {c : Cu} (h : inB c.nodes.length 2 4 = false) : goodCu c = false := goodCu_head (by simp [headCu, h])
theorem goodI_v {c : Cu} (h : vwB c.tep c.tld c.tst c.nodes.length = false) : goodCu c = false := goodCu_head (by simp [headCu, h])
theorem goodI_k {c : Cu} {k : Nat} {r : Nd} (hr : c.nodes[k]? = some r) (h : okNI c k r = false) : goodCu c = false :=
  goodCu_bad hr (by rw [Bool.eq_false_iff]; intro g; have := (okNd_iff.1 g).1; rw [h] at this; cases this)
theorem ndA_get {l : List Nd} {k : Nat} (h : k < l.length) : l[k]? = some (ndA l k) := by simp [ndA, List.getD_eq_getElem?_getD, List.getElem?_eq_getElem h]
theorem view_in {c : Cu} (h : vwB c.tep c.tld c.tst c.nodes.length = true) {z : Int} (hz : z ∈ c.tst) : 0 ≤ z ∧ z < c.nodes.length := by
  simp only [vwB, Bool.and_eq_true] at h
  exact rise_mem h.2.1 hz
theorem goodI_all {c : Cu} (h1 : inB c.nodes.length 2 4 = true) (h2 : vwB c.tep c.tld c.tst c.nodes.length = true) (h3 : ndITo c c.nodes.length) : goodCu c = c.tst.all (ackOk c) := by
  rw [Bool.eq_iff_iff]
  constructor
  · intro h
    rw [List.all_eq_true]
    intro z hz
    obtain ⟨g1, g2⟩ := view_in h2 hz
    simp only [goodCu, Bool.and_eq_true, decide_eq_true_eq] at h
    have := (okNd_iff.1 (h.2 z.toNat (by omega))).2 (by rw [show ((z.toNat : Nat) : Int) = z by omega]; simpa using hz)
    simp [ackOk, this]
  · intro h
    rw [List.all_eq_true] at h
    have hv := h2
    simp only [vwB, Bool.and_eq_true] at hv
    have hld : c.tld ∈ c.tst := by simpa using hv.2.2
    obtain ⟨g1, g2⟩ := view_in h2 hld
    have ha : sameN c.acked (ndA c.nodes c.tld.toNat).log = c.acked.length := by simpa [ackOk] using h _ hld
    have hk := h3 c.tld.toNat (by omega)
    simp only [okNI, Bool.and_eq_true] at hk
    have he : (ndA c.nodes c.tld.toNat).epoch ≤ c.tep := by
      have := hk.2.1
      simp only [Bool.or_eq_true, Bool.and_eq_true, decide_eq_true_eq, beq_iff_eq] at this
      omega
    have h100 := inB_t.1 hv.1
    have hr : rlogB c.acked 100 = true := rlogB_pre ha hk.2.2.1 (by omega)
    refine goodCu_done (by rw [headCu, h1, h2, hr]; rfl) fun i hi => okNd_iff.2 ⟨h3 i hi, fun hc => ?_⟩
    have := h _ (by simpa using hc : ((i : Nat) : Int) ∈ c.tst)
    simpa [ackOk] using this

end Go.Proofs.YtekjpbfmiebigaaDoor
