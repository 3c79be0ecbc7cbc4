/-
  The walk of the law FnExactVectorClocks: at every number and every list of events that can be read it answers true and leaves what was there as it was.
-/
import Derived.Test.YtambbgpofmojnaaQLawZ
import Derived.Test.YtambbgpofmojnaaVecS
import Derived.Test.YtambbgpofmojnaaVecI
import Derived.Test.YtambbgpofmojnaaLawGE
namespace Go.Proofs.Ytambbgpofmojnaa
open Go.RowKit

set_option maxRecDepth 100000 in
set_option maxHeartbeats 4000000 in
theorem lawVector_any (z0 : Int) (zs1 : List Ev) (a1 : Option Addr) (c1 : Nat) (w : World) (HA1 : Evs w a1 zs1) (hm1 : zs1.length ≤ maxLen) :
    Calls Try.prog 5 #[.int .i64 z0, .slice a1 zs1.length c1] w fun r w' => r = .returned (.bool true) ∧ Below w.heap.size w w' := by
  have HS : Hid (∀ (u : World) (x : Option Addr), Evs u x zs1 → Calls Try.prog 20 #[.int .i64 z0, .slice x zs1.length zs1.length] u fun r u' => LAns u (vcL z0 zs1) (goodEv z0 zs1) r u') := fun u x h => specVC_any z0 x zs1 u h hm1
  have HI : Hid (∀ (u : World) (x : Option Addr), Evs u x zs1 → Calls Try.prog 21 #[.int .i64 z0, .slice x zs1.length zs1.length] u fun r u' => LAns u (vcL z0 zs1) (goodEv z0 zs1) r u') := fun u x h => implVC_any z0 x zs1 u h hm1
  obtain ⟨hL, h7⟩ := vcL_small z0 zs1
  generalize vcL z0 zs1 = ans at *
  generalize goodEv z0 zs1 = ok at *
  have hT : (ok != ok) = false := by cases ok <;> rfl
  have hmL : ans.length ≤ maxLen := by unfold maxLen; omega
  have hm7 : ∀ zs ∈ ans, zs.length ≤ maxLen := fun zs h => by have := h7 zs h; unfold maxLen; omega
  have lA1 := HA1.lt
  have hml1 := hm1
  unfold maxLen at hml1
  by_cases hbig1 : (1048576 : Int) < zs1.length
  · have HZ : Hid (szE zs1.length = -1) := szE_neg hbig1
    go_enter Try.func5, Try.ntmps5
    go_wp2_with fail
    refine (szEventS_any _ _ _ _ hm1).mono ?_
    rintro r w1 ⟨hr, rfl⟩
    rw [HZ.out] at hr; subst hr
    go_wp2
    go_ret
    exact ⟨rfl, Below.refl _ _⟩
  have hle1 : zs1.length ≤ 1048576 := by omega
  have HZ1 : Hid (szE zs1.length = 1048576 - zs1.length) := szE_pos hle1
  have BB : Below w.heap.size w w := Below.refl _ _
  go_enter Try.func5, Try.ntmps5
  go_wp2_with fail
  refine (szEventS_any _ _ _ _ hm1).mono ?_
  rintro r w1 ⟨hr, hw1⟩
  rw [HZ1.out] at hr; subst hr
  rw [hw1]
  clear hw1 w1
  go_wp2_with fail
  refine (toEventS_any _ _ _ _ HA1 hle1).mono ?_
  rintro r w1 ⟨H1a, rfl, H1, -, hB⟩
  replace HA1 := HA1.below hB
  replace BB := Below.stp BB hB
  have sw1 := hB.size
  clear hB
  go_wp2_with fail
  refine (HS.out _ _ H1).mono ?_
  rintro r w2 ⟨HWa, HWc, HWq, HWe, rfl, HW, hB⟩
  replace HA1 := HA1.below hB
  replace H1 := H1.below hB
  replace BB := Below.stp BB hB
  have sw2 := hB.size
  clear hB
  have lHW : ∀ b, InO HWa HWq b → w1.heap.size ≤ b ∧ b < w2.heap.size := fun b h => HW.lt h
  clear HS H1
  go_wp2_with fail
  refine (toEventS_any _ _ _ _ HA1 hle1).mono ?_
  rintro r w3 ⟨HXa, rfl, HX, RHX, hB⟩
  replace HA1 := HA1.below hB
  replace HW := HW.below hB
  replace BB := Below.stp BB hB
  have sw3 := hB.size
  clear hB
  have lHX : ∀ b, InI HXa zs1.length b → w2.heap.size ≤ b ∧ b < w3.heap.size := fun b h => RHX.lt h
  go_wp2_with fail
  refine (HI.out _ _ HX).mono ?_
  rintro r w4 ⟨HGa, HGc, HGq, HGe, rfl, HG, hB⟩
  replace HA1 := HA1.below hB
  replace HW := HW.below hB
  replace HX := HX.below hB
  replace RHX := RHX.below hB
  replace BB := Below.stp BB hB
  have sw4 := hB.size
  clear hB
  have lHG : ∀ b, InO HGa HGq b → w3.heap.size ≤ b ∧ b < w4.heap.size := fun b h => HG.lt h
  go_wp2_with fail
  refine (eqOut ans _ _ _ _ _ _ _ _ _ HGe HWe HG HW hmL hm7).mono ?_
  rintro r w5 ⟨rfl, hB⟩
  replace HA1 := HA1.below hB
  replace HW := HW.below hB
  replace HX := HX.below hB
  replace RHX := RHX.below hB
  replace HG := HG.below hB
  replace BB := Below.stp BB hB
  have sw5 := hB.size
  clear hB
  go_wp2_with fail
  refine (toEventS_any _ _ _ _ HA1 hle1).mono ?_
  rintro r w6 ⟨H7a, rfl, H7, -, hB⟩
  replace HA1 := HA1.below hB
  replace HW := HW.below hB
  replace HX := HX.below hB
  replace RHX := RHX.below hB
  replace HG := HG.below hB
  replace BB := Below.stp BB hB
  have sw6 := hB.size
  clear hB
  go_wp2_with fail
  refine (eqEventS_same _ _ _ _ zs1 _ HX H7 hm1).mono ?_
  rintro r w7 ⟨rfl, hB⟩
  replace HA1 := HA1.below hB
  replace HW := HW.below hB
  replace HX := HX.below hB
  replace RHX := RHX.below hB
  replace HG := HG.below hB
  replace H7 := H7.below hB
  replace BB := Below.stp BB hB
  have sw7 := hB.size
  clear hB
  clear H7
  clear HX
  go_wp2_with fail
  refine (markEventS_any _ _ _ w2.heap.size 1 _ RHX (by omega)).mono ?_
  rintro r w8 ⟨rfl, -, -, hB, hO⟩
  replace HA1 := HA1.of_block (fun b h => hO b (HA1.lt b h) (fun h' => by have := lA1 b h; have := lHX b h'; omega))
  replace HW := HW.of_block (fun b h => hO b (HW.lt h).2 (fun h' => by have := lHW b h; have := lHX b h'; omega))
  replace HG := HG.of_block (fun b h => hO b (HG.lt h).2 (fun h' => by have := lHG b h; have := lHX b h'; omega))
  replace BB := BB.trans (hB.mono (by omega))
  have sw8 := hB.size
  clear hB hO RHX
  have hk : ¬ (((1 + 3 * zs1.length : Nat) : Int) < 0) := by omega
  go_wp2_with fail
  refine (eqOut ans _ _ _ _ _ _ _ _ _ HGe HWe HG HW hmL hm7).mono ?_
  rintro r w9 ⟨rfl, hB⟩
  replace HA1 := HA1.below hB
  replace HW := HW.below hB
  replace HG := HG.below hB
  replace BB := Below.stp BB hB
  have sw9 := hB.size
  clear hB
  obtain ⟨gl, gt⟩ := qTo_small HGe h7 hL
  have hgt2 : 1 + qTo HGq HGq.length ≤ 1000000000 := by omega
  have hgl2 : HGq.length ≤ 1048576 := by omega
  go_wp2_with fail
  refine (mark_out _ _ w3.heap.size 1 HGq _ HG hgl2 hgt2).mono ?_
  rintro r w10 ⟨rfl, HM, hB, hO⟩
  replace HA1 := HA1.of_block (fun b h => hO b (HA1.lt b h) (fun h' => by have := lA1 b h; have := lHG b (.inl h'); omega))
  replace HW := HW.of_block (fun b h => hO b (HW.lt h).2 (fun h' => by have := lHW b h; have := lHG b (.inl h'); omega))
  replace BB := BB.trans (hB.mono (by omega))
  have sw10 := hB.size
  clear hB hO HG
  have hq : ¬ (((1 + qTo HGq HGq.length : Nat) : Int) < 0) := by omega
  go_wp2_with fail
  refine (held_out _ _ 1 HGq _ HM hgl2 hgt2).mono ?_
  rintro r wh ⟨rfl, hwh⟩
  rw [hwh]
  clear hwh wh
  go_wp2_with fail
  refine (toEventS_any _ _ _ _ HA1 hle1).mono ?_
  rintro r w11 ⟨H9a, rfl, H9, -, hB⟩
  replace HA1 := HA1.below hB
  replace HW := HW.below hB
  replace HM := HM.below hB
  replace BB := Below.stp BB hB
  have sw11 := hB.size
  clear hB
  go_wp2_with fail
  refine (HI.out _ _ H9).mono ?_
  rintro r w12 ⟨HHa, HHc, HHq, HHe, rfl, HH, hB⟩
  replace HA1 := HA1.below hB
  replace HW := HW.below hB
  replace HM := HM.below hB
  replace H9 := H9.below hB
  replace BB := Below.stp BB hB
  have sw12 := hB.size
  clear hB
  have lHH : ∀ b, InO HHa HHq b → w11.heap.size ≤ b ∧ b < w12.heap.size := fun b h => HH.lt h
  go_wp2_with fail
  refine (eqOut ans _ _ _ _ _ _ _ _ _ HHe HWe HH HW hmL hm7).mono ?_
  rintro r w13 ⟨rfl, hB⟩
  replace HA1 := HA1.below hB
  replace HW := HW.below hB
  replace HM := HM.below hB
  replace H9 := H9.below hB
  replace HH := HH.below hB
  replace BB := Below.stp BB hB
  have sw13 := hB.size
  clear hB
  go_wp2_with fail
  refine (held_out _ _ 1 HGq _ HM hgl2 hgt2).mono ?_
  rintro r wh ⟨rfl, hwh⟩
  rw [hwh]
  clear hwh wh
  go_wp2
  go_ret
  exact ⟨rfl, BB⟩

end Go.Proofs.Ytambbgpofmojnaa
