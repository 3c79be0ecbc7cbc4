/-
  Small facts for laws on lists of batches: what a size that is not negative says; the form of an owned slice.
-/
import Derived.Test.YtopndglgbollfaaDoorLogs
namespace Go.Proofs.YtopndglgbollfaaDoor
open Go.RowKit

theorem szBs_all : ∀ (bs : List Bt) (left : Int), left ≤ 1048576 → 0 ≤ szBs bs left → ∀ b, b ∈ bs → b.recs.length ≤ 1048576
  | [], _, _, _, b, hb => by simp at hb
  | x :: r, left, h1, h, b, hb => by
    rw [szBs] at h
    by_cases hn : szS x.recs left < 0
    · rw [if_pos hn] at h; omega
    · rw [if_neg hn] at h
      have hx := (szS_bound (ss := x.recs) (left := left) (by omega)).1
      rcases List.mem_cons.1 hb with rfl | hb
      · omega
      · refine szBs_all r _ ?_ h b hb
        have : szS x.recs left ≤ left := by unfold szS at hn ⊢; split at hn <;> split <;> omega
        omega

theorem szL_all {bs : List Bt} (h : 0 ≤ szL bs 1048576) : bs.length ≤ 1048576 ∧ ∀ b, b ∈ bs → b.recs.length ≤ 1048576 := by
  unfold szL at h
  by_cases hn : (1048576 : Int) - bs.length < 0
  · rw [if_pos hn] at h; omega
  · rw [if_neg hn] at h
    exact ⟨by omega, szBs_all bs _ (by omega) h⟩

theorem Below.stepL {W a b : World} (h : Below W.heap.size W a) (k : Below a.heap.size a b) : Below W.heap.size W b := h.trans (k.mono h.size)

theorem owns_form {w : World} {B : Nat} {e : TypeId} {size : Nat} {v : Value} {n : Nat} {xs : List Value} (h : w.ownsRow B e size v n xs) : ∃ a cap, v = .slice a n cap := by
  obtain ⟨-, ⟨rfl, rfl⟩ | ⟨g, cap, cur, rfl, -⟩⟩ := h
  · exact ⟨none, 0, rfl⟩
  · exact ⟨_, cap, rfl⟩

end Go.Proofs.YtopndglgbollfaaDoor
