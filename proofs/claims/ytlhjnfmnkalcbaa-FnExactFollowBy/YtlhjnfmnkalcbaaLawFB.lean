/-
  The walk of the law FnExactFollowBy: at every two lists of numbers that can be read it answers true and leaves what was there as it was.
-/
import Derived.Test.YtlhjnfmnkalcbaaLawHFB
namespace Go.Proofs.Ytlhjnfmnkalcbaa
open Go.RowKit

theorem folL_len (L f : List Int) : (folL L f).length ≤ 60 := by
  unfold folL
  split
  · rename_i h
    rw [Bool.and_eq_true] at h
    have h1 := (goodE_t.1 h.1).1
    have h2 := (goodE_t.1 h.2).1
    rw [List.length_append, List.length_take, List.length_drop]
    omega
  · simp

theorem fo_ans {w w' : World} {zs : List Int} {ok : Bool} {e : Ending} (h : FoAns w zs ok e w') : ∃ a' c', e = .returned (.tuple #[.slice a' zs.length c', .bool ok]) ∧ Ints w' a' zs ∧ RowI w' w.heap.size a' zs.length ∧ Below w.heap.size w w' := by
  obtain ⟨v, rfl, hown, hB⟩ := h
  obtain ⟨a', c', rfl⟩ := ownsM_form hown
  have := ints_of_owns hown
  exact ⟨a', c', rfl, this.1, this.2, hB⟩

theorem lawFollow_any (zs0 zs1 : List Int) (a0 a1 : Option Addr) (c0 c1 : Nat) (w : World) (h0 : Ints w a0 zs0) (h1 : Ints w a1 zs1) (hm0 : zs0.length ≤ maxLen) (hm1 : zs1.length ≤ maxLen) :
    Calls Try.prog 10 #[.slice a0 zs0.length c0, .slice a1 zs1.length c1] w fun r w' => r = .returned (.bool true) ∧ Below w.heap.size w w' :=
  lawFollowH zs0 zs1 (folL zs0 zs1) (goodE zs0 && goodE zs1) a0 c0 a1 c1 w h0 hm0 h1 hm1 (by have := folL_len zs0 zs1; omega)
    (fun u x0 x1 h0 h1 => (specFB_any x0 x1 zs0 zs1 u h0 h1 hm0 hm1).mono fun _ _ h => fo_ans h) (fun u x0 x1 h0 h1 => (implFB_any x0 x1 zs0 zs1 u h0 h1 hm0 hm1).mono fun _ _ h => fo_ans h)

end Go.Proofs.Ytlhjnfmnkalcbaa
