/-
  The walk of the law FnExactGridQuorums: at all that can be read it answers true and leaves what was there as it was, where the table of math/bits is laid.
-/
import Derived.Test.YtifahambpgnedaaDoorQGQs
import Derived.Test.YtifahambpgnedaaDoorQLaw
import Derived.Deep.RegionHeld3
namespace Go.Proofs.YtifahambpgnedaaDoor
open Go.RowKit

set_option maxRecDepth 100000 in
set_option maxHeartbeats 8000000 in
theorem lawGridQuorums_any (z0 : Int) (z1 : Int) (w : World)  (HT : TabQ w) :
    Calls Tryd.prog 6 #[.int .i64 z0, .int .i64 z1] w fun r w' => r = .returned (.bool true) ∧ Below w.heap.size w w' := by
  obtain ⟨hL, h7⟩ := gqL_small z0 z1
  generalize hans : gqL z0 z1 = ans at hL h7
  have HANS : Hid (gqL z0 z1 = ans) := hans
  generalize hok : gqOk z0 z1 = ok
  have HOK : Hid (gqOk z0 z1 = ok) := hok
  clear hans hok
  have hT : (ok != ok) = false := by cases ok <;> rfl
  have hmL : ans.length ≤ maxLen := by unfold maxLen; omega
  have hm7 : ∀ zs ∈ ans, zs.length ≤ maxLen := fun zs h => by have := h7 zs h; unfold maxLen; omega
  have BB : Below w.heap.size w w := Below.refl _ _
  have HTb := HT
  go_enter Tryd.func6, Tryd.ntmps6
  go_wp2_with fail
  refine (specGQ_any _ _ _).mono ?_
  rw [HANS.out, HOK.out]
  rintro r s3 ⟨Wa, Wc, Wq, We, rfl, WO, hB⟩
  replace HT := HT.bel hB
  replace BB := BB.trans (hB.mono BB.size)
  clear hB
  have WS : Below s3.heap.size s3 s3 := Below.refl _ _
  have WL : ∀ b, InO Wa Wq b → b < s3.heap.size := fun b h => (WO.lt h).2
  have WOs := WO
  have hsB := BB.size
  have hsW : s3.heap.size ≤ s3.heap.size := Nat.le_refl _
  go_wp2_with fail
  refine (implGQ_any _ _ _ HT).mono ?_
  rw [HANS.out, HOK.out]
  rintro r s5 ⟨Ga, Gc, Gq, Ge, rfl, GO, hB⟩
  have hsG := hB.size
  replace WO := WO.below hB
  replace HT := HT.bel hB
  replace BB := BB.trans (hB.mono BB.size)
  replace WS := WS.trans (hB.mono WS.size)
  clear hB
  have GL : ∀ b, InO Ga Gq b → s3.heap.size ≤ b ∧ b < s5.heap.size := fun b h => GO.lt h
  obtain ⟨gl, gt⟩ := qTo_small Ge h7 hL
  go_wp2_with fail
  refine (eqOut ans _ _ _ _ _ _ _ _ _ Ge We GO WO hmL hm7).mono ?_
  rintro r s6 ⟨rfl, hB⟩
  replace WO := WO.below hB
  replace GO := GO.below hB
  replace HT := HT.bel hB
  replace BB := BB.trans (hB.mono BB.size)
  replace WS := WS.trans (hB.mono WS.size)
  clear hB
  go_wp2_with fail
  refine (mark_out _ _ _ 1 Gq _ GO (by omega) (by omega)).mono ?_
  rintro r s10 ⟨rfl, MG, hB, -⟩
  have hW10 : Below s3.heap.size s3 s10 := WS.trans (hB.mono (by have := hsW; first | omega | (simp only [World.size_alloc]; omega)))
  have hb10 : Below w.heap.size w s10 := BB.trans (hB.mono (by have := hsW; have := hsB; first | omega | (simp only [World.size_alloc] at *; omega)))
  replace HT := HTb.bel hb10
  replace WO := WOs.below hW10
  replace BB := hb10
  replace WS := hW10
  clear hB GO
  have hq : ¬ (((1 + qTo Gq Gq.length : Nat) : Int) < 0) := by omega
  have hqq : ((((1 + qTo Gq Gq.length : Nat) : Int)) != (((1 + qTo Gq Gq.length : Nat) : Int))) = false := by simp
  go_wp2_with fail
  refine (held_out _ _ 1 Gq _ MG (by omega) (by omega)).mono ?_
  rintro r wh ⟨rfl, hwh⟩
  rw [hwh]
  clear hwh wh
  go_wp2_with fail
  refine (implGQ_any _ _ _ HT).mono ?_
  rw [HANS.out, HOK.out]
  rintro r s12 ⟨Ka, Kc, Kq, Ke, rfl, KO, hB⟩
  replace WO := WO.below hB
  replace MG := MG.below hB
  replace HT := HT.bel hB
  replace BB := BB.trans (hB.mono BB.size)
  replace WS := WS.trans (hB.mono WS.size)
  clear hB
  go_wp2_with fail
  refine (eqOut ans _ _ _ _ _ _ _ _ _ Ke We KO WO hmL hm7).mono ?_
  rintro r s13 ⟨rfl, hB⟩
  replace WO := WO.below hB
  replace MG := MG.below hB
  replace HT := HT.bel hB
  replace BB := BB.trans (hB.mono BB.size)
  replace WS := WS.trans (hB.mono WS.size)
  clear hB
  go_wp2_with fail
  refine (held_out _ _ 1 Gq _ MG (by omega) (by omega)).mono ?_
  rintro r wh ⟨rfl, hwh⟩
  rw [hwh]
  clear hwh wh
  go_wp2
  go_ret
  exact ⟨rfl, BB⟩

end Go.Proofs.YtifahambpgnedaaDoor
