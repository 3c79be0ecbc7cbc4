/-
  The walk of the law FnExactLogBytes: at every list of batches that can be read it answers true and leaves what was there as it was.
-/
import Derived.Test.YteefmbaehmcibaaDoorLogEnc2
namespace Go.Proofs.YteefmbaehmcibaaDoor
open Go.RowKit

set_option maxHeartbeats 2000000 in
theorem lawLogBytes_any (bs : List Bt) (a : Option Addr) (c : Nat) (w : World) (hT : TabAt w) (hs : Bats w a bs) (hl : bs.length ≤ maxLen) :
    Calls Tryd.prog 4 #[.slice a bs.length c] w fun r w' => r = .returned (.bool true) ∧ Below w.heap.size w w' := by
  have hw0 : 0 < w.heap.size := lt_of_cell (hT 0 (by omega))
  by_cases hn : szL bs 1048576 < 0
  · go_enter Tryd.func4, Tryd.ntmps4
    go_wp2_with fail
    refine (szBatchS_any _ _ _ _ _ hs hl (by omega) (by omega)).mono ?_
    rintro r w1 ⟨rfl, hB1⟩
    go_wp2
    go_ret
    exact ⟨rfl, hB1⟩
  · obtain ⟨hlen, hrec⟩ := szL_all (bs := bs) (by omega)
    have HR : Hid (∀ b, b ∈ bs → b.recs.length ≤ 1048576) := hrec
    clear hrec
    go_enter Tryd.func4, Tryd.ntmps4
    go_wp2_with fail
    refine (szBatchS_any _ _ _ _ _ hs hl (by omega) (by omega)).mono ?_
    rintro r w1 ⟨rfl, hB1⟩
    have hs1 := hs.below hB1
    go_wp2_with fail
    refine (toBatchS_any _ _ _ _ hs1 hlen HR.out).mono ?_
    rintro r w2 ⟨a2, rfl, hs2, hB2⟩
    go_wp2_with fail
    refine (specLogBytes_any _ _ _ _ hs2 hl).mono ?_
    rintro r w3 ⟨rfl, hB3⟩
    have hB3' := Below.stepL (Below.stepL hB1 hB2) hB3
    have hs3 := hs.below hB3'
    clear hs1 hs2 hB1 hB2 hB3
    go_wp2_with fail
    refine (toBatchS_any _ _ _ _ hs3 hlen HR.out).mono ?_
    rintro r w4 ⟨a4, rfl, hs4, hB4⟩
    go_wp2_with fail
    refine (implLogBytes_any _ _ _ _ (hT.below (Below.stepL hB3' hB4) hw0) hs4 hl (Nat.le_refl _)).mono ?_
    rintro r w5 ⟨rfl, hB5⟩
    have hB5' := Below.stepL (Below.stepL hB3' hB4) hB5
    have hs5 := hs.below hB5'
    have hx5 := hs4.below hB5
    clear hs3 hs4 hB3' hB4 hB5
    go_wp2_with fail
    refine (toBatchS_any _ _ _ _ hs5 hlen HR.out).mono ?_
    rintro r w6 ⟨a6, rfl, hs6, hB6⟩
    go_wp2_with fail
    refine (eqBatchS_same _ _ _ _ _ _ (hx5.below hB6) hs6 hl).mono ?_
    rintro r w7 ⟨rfl, hB7⟩
    go_wp2
    go_ret
    exact ⟨rfl, Below.stepL (Below.stepL hB5' hB6) hB7⟩

end Go.Proofs.YteefmbaehmcibaaDoor
