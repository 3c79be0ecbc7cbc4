/-
  The walk of the law FnExactReadLog: at every text it answers true and leaves what was there as it was, where the sum's table is laid.
-/
import Derived.Test.YtopndglgbollfaaDoorReadSpec
import Derived.Test.YtopndglgbollfaaDoorMarkLog2
namespace Go.Proofs.YtopndglgbollfaaDoor
open Go.RowKit

theorem readR_len (l : List UInt8) : ∀ (k : Nat) (p : Option Bt) (n : Nat), n ≤ l.length → 2 * (readR l k p n).1.length + n ≤ l.length
  | 0, p, n, h => by simpa [readR] using h
  | k + 1, p, n, h => by
    unfold readR
    cases hs : specTake l n with
    | none => simpa using h
    | some x =>
      obtain ⟨b, e⟩ := x
      have he := specTake_end2 hs
      by_cases hf : followB p b = true
      · have := readR_len l k (some b) e he.2
        simp only [hf, if_true, List.length_cons]
        omega
      · simp only [hf]
        simpa using h

theorem kTo_le : ∀ (qs : List Q) (k : Nat), (∀ q, q ∈ qs → q.b.recs.length ≤ 8) → kTo qs k ≤ k + 12 * qs.length
  | [], k, _ => by simp [kTo]
  | q :: r, k, h => by
    have h1 := kTo_le r (k + 4 + q.b.recs.length) (fun p hp => h p (List.mem_cons_of_mem _ hp))
    have h2 := h q List.mem_cons_self
    simp only [kTo, List.length_cons]
    omega

theorem RdAns.form {w w' : World} {bs : List Bt} {z : Int} {ok : Bool} {r : Ending} (h : RdAns w bs z ok r w') :
    ∃ qs a c, r = .returned (.tuple #[.slice a bs.length c, .int .i64 z, .bool ok]) ∧ qs.length = bs.length ∧ Bats w' a bs ∧ RdSt w w' (.slice a qs.length c) qs := by
  obtain ⟨qs, a, c, rfl, rfl, hst⟩ := h
  exact ⟨qs, a, c, by rw [qsB_len], (qsB_len qs).symm, rd_bats hst, hst⟩

theorem Below.stepR {W a b : World} (h : Below W.heap.size W a) (k : Below a.heap.size a b) : Below W.heap.size W b := h.trans (k.mono h.size)

end Go.Proofs.YtopndglgbollfaaDoor
