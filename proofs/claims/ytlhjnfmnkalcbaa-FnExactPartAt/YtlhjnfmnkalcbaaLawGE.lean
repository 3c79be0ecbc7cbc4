/-
  The walk of the law FnExactGoodEntries: at every list of numbers that can be read it answers true and leaves what was there as it was.
-/
import Derived.Test.YtlhjnfmnkalcbaaEp
namespace Go.Proofs.Ytlhjnfmnkalcbaa
open Go.RowKit

theorem Below.stp {W a b : World} (h : Below W.heap.size W a) (k : Below a.heap.size a b) : Below W.heap.size W b := h.trans (k.mono h.size)

set_option maxHeartbeats 2000000 in
theorem lawGoodE_any (zs : List Int) (a : Option Addr) (c : Nat) (w : World) (hs : Ints w a zs) (hl : zs.length ≤ maxLen) :
    Calls Try.prog 3 #[.slice a zs.length c] w fun r w' => r = .returned (.bool true) ∧ Below w.heap.size w w' := by
  have hlm := hl
  unfold maxLen at hl
  by_cases hbig : (1048576 : Int) < zs.length
  · go_enter Try.func3, Try.ntmps3
    go_wp2
    go_ret
    exact ⟨rfl, Below.refl _ _⟩
  have hlen : zs.length ≤ 1048576 := by omega
  have hT : (goodE zs != goodE zs) = false := by cases goodE zs <;> rfl
  go_enter Try.func3, Try.ntmps3
  go_wp2_with fail
  refine (toIntS_any _ _ _ _ hs hlen).mono ?_
  rintro r w1 ⟨a1, rfl, H1, -, hB1⟩
  go_wp2_with fail
  refine (specGoodE_any _ _ _ _ H1 hlm).mono ?_
  rintro r w2 ⟨rfl, rfl⟩
  have hs1 := hs.below hB1
  go_wp2_with fail
  refine (toIntS_any _ _ _ _ hs1 hlen).mono ?_
  rintro r w2 ⟨a2, rfl, H2, -, hB2⟩
  go_wp2_with fail
  refine (implGoodE_any _ _ _ _ H2 hlm).mono ?_
  rintro r w3 ⟨rfl, rfl⟩
  have hs2 := hs1.below hB2
  have BB := Below.stp hB1 hB2
  clear hB1 hB2 hs hs1 H1
  go_wp2_with fail
  refine (toIntS_any _ _ _ _ hs2 hlen).mono ?_
  rintro r w4 ⟨a4, rfl, H4, -, hB4⟩
  go_wp2_with fail
  refine (eqIntS_same _ _ _ _ _ _ (H2.below hB4) H4 hlm).mono ?_
  rintro r w5 ⟨rfl, hB5⟩
  go_wp2
  go_ret
  exact ⟨rfl, Below.stp (Below.stp BB hB4) hB5⟩

end Go.Proofs.Ytlhjnfmnkalcbaa
