/-
  The walk of the law FnExactGoodMarks: at every list of marks that can be read it answers true and leaves what was there as it was.
-/
import Derived.Test.YtlhjnfmnkalcbaaMkI
import Derived.Test.YtlhjnfmnkalcbaaLawGE
namespace Go.Proofs.Ytlhjnfmnkalcbaa
open Go.RowKit

theorem szM_neg {n : Nat} (h : (1048576 : Int) < n) : szM n = -1 := by unfold szM; rw [if_pos (by omega)]
theorem szM_pos {n : Nat} (h : n ≤ 1048576) : szM n = 1048576 - n := by unfold szM; rw [if_neg (by omega)]

set_option maxHeartbeats 2000000 in
theorem lawGoodM_any (fs : List Mk) (a : Option Addr) (c : Nat) (w : World) (hs : Mks w a fs) (hl : fs.length ≤ maxLen) :
    Calls Try.prog 5 #[.slice a fs.length c] w fun r w' => r = .returned (.bool true) ∧ Below w.heap.size w w' := by
  have hlm := hl
  unfold maxLen at hl
  by_cases hbig : (1048576 : Int) < fs.length
  · have HZ : Hid (szM fs.length = -1) := szM_neg hbig
    go_enter Try.func5, Try.ntmps5
    go_wp2_with fail
    refine (szEpochMarkS_any _ _ _ _ hlm).mono ?_
    rintro r w1 ⟨hr, rfl⟩
    rw [HZ.out] at hr; subst hr
    go_wp2
    go_ret
    exact ⟨rfl, Below.refl _ _⟩
  have hlen : fs.length ≤ 1048576 := by omega
  have HZ : Hid (szM fs.length = 1048576 - fs.length) := szM_pos hlen
  have hT : (goodM fs != goodM fs) = false := by cases goodM fs <;> rfl
  go_enter Try.func5, Try.ntmps5
  go_wp2_with fail
  refine (szEpochMarkS_any _ _ _ _ hlm).mono ?_
  rintro r w1 ⟨hr, rfl⟩
  rw [HZ.out] at hr; subst hr
  go_wp2_with fail
  refine (toEpochMarkS_any _ _ _ _ hs hlen).mono ?_
  rintro r w1 ⟨a1, rfl, H1, -, hB1⟩
  go_wp2_with fail
  refine (specGoodM_any _ _ _ _ H1 hlm).mono ?_
  rintro r w2 ⟨rfl, hB2⟩
  have hs1 := (hs.below hB1).below hB2
  replace hB1 := Below.stp hB1 hB2
  clear hB2
  go_wp2_with fail
  refine (toEpochMarkS_any _ _ _ _ hs1 hlen).mono ?_
  rintro r w3 ⟨a2, rfl, H2, -, hB3⟩
  go_wp2_with fail
  refine (implGoodM_any _ _ _ _ H2 hlm).mono ?_
  rintro r w4 ⟨rfl, hB4⟩
  have hs2 := (hs1.below hB3).below hB4
  replace H2 := H2.below hB4
  have BB := Below.stp (Below.stp hB1 hB3) hB4
  clear hB1 hB3 hB4 hs hs1 H1
  go_wp2_with fail
  refine (toEpochMarkS_any _ _ _ _ hs2 hlen).mono ?_
  rintro r w5 ⟨a4, rfl, H4, -, hB5⟩
  go_wp2_with fail
  refine (eqEpochMarkS_same _ _ _ _ _ _ (H2.below hB5) H4 hlm).mono ?_
  rintro r w6 ⟨rfl, hB6⟩
  go_wp2
  go_ret
  exact ⟨rfl, Below.stp (Below.stp BB hB5) hB6⟩

end Go.Proofs.Ytlhjnfmnkalcbaa
