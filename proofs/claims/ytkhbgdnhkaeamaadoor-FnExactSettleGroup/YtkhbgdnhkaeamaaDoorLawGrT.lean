/-
  The walk of the law FnExactSettleGroup: at every group it answers true and leaves what was there as it was, where the table of math/bits is laid.
-/
import Derived.Test.YtkhbgdnhkaeamaaDoorLawHGrT
import Derived.Test.YtkhbgdnhkaeamaaDoorOgS4J
import Derived.Test.YtkhbgdnhkaeamaaDoorOgI6
namespace Go.Proofs.YtkhbgdnhkaeamaaDoor
open Go.RowKit

theorem RpK_le {l : List Rp} {t : Nat} (h : ∀ c, c ∈ l → RpT c ≤ t) (k : Nat) : ∀ i, RpK l k i ≤ k + t * i
  | 0 => by simp [RpK]
  | i + 1 => by
    have := RpK_le h k i
    rw [RpK, Nat.mul_add]
    cases e : l[i]? with
    | none => simp only; omega
    | some c =>
      have := h c (List.mem_of_getElem? e)
      simp only; omega

/-- Groups of few replicas with short logs are small. -/
theorem small_of {s : Gr} (h1 : s.steps.length ≤ 1000) (h2 : s.reps.length ≤ 4) (h3 : ∀ c, c ∈ s.reps → c.log.length ≤ 30) : GrS s ∧ GrL s := by
  refine ⟨⟨by omega, by omega, fun c hc => by have := h3 c hc; unfold maxLen; omega, fun k hk => ?_⟩, ⟨by unfold maxLen; omega, by unfold maxLen; omega⟩⟩
  have := RpK_le (l := s.reps) (t := 62) (fun c hc => by have := h3 c hc; unfold RpT; omega) (k + s.steps.length) s.reps.length
  omega

theorem stlG_small (s : Gr) : GrS (stlG s) ∧ GrL (stlG s) := by
  cases h : goodGr s with
  | false => rw [(stlG_f h).1]; exact small_of (by simp) (by simp) (fun c hc => by simp at hc)
  | true =>
    obtain ⟨-, hn4, -, -, -, -, -⟩ := goodGr_all h
    obtain ⟨-, -, h30, -⟩ := goodGr_high h
    rw [(stlG_t h).1]
    refine small_of (by simp [iotaZ_len]; omega) (by simpa using hn4) (fun c hc => ?_)
    rw [List.eq_of_mem_replicate hc]
    exact h30

theorem lawSettleGroup_any (s : Gr) (a0 a1 : Option Addr) (c0 c1 : Nat) (w : World) (hs : GrR w s a0 a1) (hL : GrL s) (HT : TabQ w) :
    Calls Tryd.prog 6 #[grV s a0 c0 a1 c1] w fun r w' => r = .returned (.bool true) ∧ Below w.heap.size w w' :=
  lawGrTH s (stlG s) (stlN s) (goodGr s) a0 a1 c0 c1 w hs hL (stlG_small s).1 (stlG_small s).2 (fun hb u b0 b1 d0 d1 h => specSettle_any s b0 b1 d0 d1 u h hb.len) (fun hb u b0 b1 d0 d1 hu h => implSettle_any s b0 b1 d0 d1 u h hb (HT.bel hu))

end Go.Proofs.YtkhbgdnhkaeamaaDoor
