/-
  The walk of the law FnExactSpreadEven, the contracts of spec.SpreadEven and impl.SpreadEven given: at all that can be read it answers true and leaves what was there as it was.
-/
import Derived.Test.YtmpchddfijcjfaaInts
import Derived.Test.YtmpchddfijcjfaaLawGE
namespace Go.Proofs.Ytmpchddfijcjfaa
open Go.RowKit

set_option maxRecDepth 100000 in
set_option maxHeartbeats 4000000 in
theorem lawSpreadH (z0 : Int) (zs1 : List Int) (gs : List Int) (ok : Bool) (a1 : Option Addr) (c1 : Nat) (w : World) (HA1 : Ints w a1 zs1) (hm1 : zs1.length ≤ maxLen) (hgm : gs.length ≤ 1000000)
    (HS0 : ∀ (u : World) (x1 : Option Addr), Ints u x1 zs1 → Calls Try.prog 20 #[.int .i64 z0, .slice x1 zs1.length zs1.length] u fun e u' => ∃ a' c', e = .returned (.tuple #[.slice a' gs.length c', .bool ok]) ∧ Ints u' a' gs ∧ RowI u' u.heap.size a' gs.length ∧ Below u.heap.size u u')
    (HI0 : ∀ (u : World) (x1 : Option Addr), Ints u x1 zs1 → Calls Try.prog 21 #[.int .i64 z0, .slice x1 zs1.length zs1.length] u fun e u' => ∃ a' c', e = .returned (.tuple #[.slice a' gs.length c', .bool ok]) ∧ Ints u' a' gs ∧ RowI u' u.heap.size a' gs.length ∧ Below u.heap.size u u') :
    Calls Try.prog 6 #[.int .i64 z0, .slice a1 zs1.length c1] w fun r w' => r = .returned (.bool true) ∧ Below w.heap.size w w' := by
  have hT : (ok != ok) = false := by cases ok <;> rfl
  have hgl : gs.length ≤ maxLen := by unfold maxLen; omega
  have HS : Hid (∀ (u : World) (x1 : Option Addr), Ints u x1 zs1 → Calls Try.prog 20 #[.int .i64 z0, .slice x1 zs1.length zs1.length] u fun e u' => ∃ a' c', e = .returned (.tuple #[.slice a' gs.length c', .bool ok]) ∧ Ints u' a' gs ∧ RowI u' u.heap.size a' gs.length ∧ Below u.heap.size u u') := HS0
  have HI : Hid (∀ (u : World) (x1 : Option Addr), Ints u x1 zs1 → Calls Try.prog 21 #[.int .i64 z0, .slice x1 zs1.length zs1.length] u fun e u' => ∃ a' c', e = .returned (.tuple #[.slice a' gs.length c', .bool ok]) ∧ Ints u' a' gs ∧ RowI u' u.heap.size a' gs.length ∧ Below u.heap.size u u') := HI0
  clear HS0 HI0
  have lA1 := HA1.lt
  have hml1 := hm1
  unfold maxLen at hml1
  by_cases hbig1 : (1048576 : Int) < zs1.length
  · go_enter Try.func6, Try.ntmps6
    go_wp2
    go_ret
    exact ⟨rfl, Below.refl _ _⟩
  have hle1 : zs1.length ≤ 1048576 := by omega
  have BB : Below w.heap.size w w := Below.refl _ _
  go_enter Try.func6, Try.ntmps6
  go_wp2_with fail
  refine (toIntS_any _ _ _ _ HA1 hle1).mono ?_
  rintro r w1 ⟨H11a, rfl, H11, -, hB⟩
  replace HA1 := HA1.below hB
  replace BB := Below.stp BB hB
  have sw1 := hB.size
  clear hB
  go_wp2_with fail
  refine (HS.out _ _ H11).mono ?_
  rintro r w2 ⟨HWa, HWc, rfl, HW, -, hB⟩
  replace HA1 := HA1.below hB
  replace H11 := H11.below hB
  replace BB := Below.stp BB hB
  have lHW := HW.lt
  have sw2 := hB.size
  clear hB
  clear HS H11
  go_wp2_with fail
  refine (toIntS_any _ _ _ _ HA1 hle1).mono ?_
  rintro r w3 ⟨HX1a, rfl, HX1, RX1, hB⟩
  replace HA1 := HA1.below hB
  replace HW := HW.below hB
  replace BB := Below.stp BB hB
  have lHX1 : ∀ b, InI HX1a zs1.length b → w2.heap.size ≤ b ∧ b < w3.heap.size := fun b h => RX1.lt h
  have sw3 := hB.size
  clear hB
  go_wp2_with fail
  refine (HI.out _ _ HX1).mono ?_
  rintro r w4 ⟨HGa, HGc, rfl, HG, RG, hB⟩
  replace HA1 := HA1.below hB
  replace HW := HW.below hB
  replace HX1 := HX1.below hB
  replace RX1 := RX1.below hB
  replace BB := Below.stp BB hB
  have lHG : ∀ b, InI HGa gs.length b → w3.heap.size ≤ b ∧ b < w4.heap.size := fun b h => RG.lt h
  have sw4 := hB.size
  clear hB
  go_wp2_with fail
  refine (eqIntS_same _ _ _ _ gs _ HG HW hgl).mono ?_
  rintro r w5 ⟨rfl, hB⟩
  replace HA1 := HA1.below hB
  replace HW := HW.below hB
  replace HX1 := HX1.below hB
  replace RX1 := RX1.below hB
  replace HG := HG.below hB
  replace RG := RG.below hB
  replace BB := Below.stp BB hB
  have sw5 := hB.size
  clear hB
  go_wp2_with fail
  refine (toIntS_any _ _ _ _ HA1 hle1).mono ?_
  rintro r w6 ⟨H7a, rfl, H7, -, hB⟩
  replace HA1 := HA1.below hB
  replace HW := HW.below hB
  replace HX1 := HX1.below hB
  replace RX1 := RX1.below hB
  replace HG := HG.below hB
  replace RG := RG.below hB
  replace BB := Below.stp BB hB
  have sw6 := hB.size
  clear hB
  go_wp2_with fail
  refine (eqIntS_same _ _ _ _ zs1 _ HX1 H7 hm1).mono ?_
  rintro r w7 ⟨rfl, hB⟩
  replace HA1 := HA1.below hB
  replace HW := HW.below hB
  replace HX1 := HX1.below hB
  replace RX1 := RX1.below hB
  replace HG := HG.below hB
  replace RG := RG.below hB
  replace H7 := H7.below hB
  replace BB := Below.stp BB hB
  have sw7 := hB.size
  clear hB
  clear H7
  clear HX1
  go_wp2_with fail
  refine (markIntS_any _ _ _ w2.heap.size (1) _ RX1 (by omega)).mono ?_
  rintro r w8 ⟨rfl, -, -, hB, hO⟩
  replace HA1 := HA1.of_block (fun b h => hO b (HA1.lt b h) (fun h' => by have := lA1 b h; have := lHX1 b h'; omega))
  replace HW := HW.of_block (fun b h => hO b (HW.lt b h) (fun h' => by have := lHW b h; have := lHX1 b h'; omega))
  replace HG := HG.of_block (fun b h => hO b (HG.lt b h) (fun h' => by have := lHG b h; have := lHX1 b h'; omega))
  replace RG := RG.of_block (fun b h => hO b (RG.lt h).2 (fun h' => by have := lHG b h; have := lHX1 b h'; omega))
  replace BB := BB.trans (hB.mono (by omega))
  have sw8 := hB.size
  clear hB hO RX1
  have hk : ¬ (((1 + zs1.length : Nat) : Int) < 0) := by omega
  go_wp2_with fail
  refine (eqIntS_same _ _ _ _ gs _ HG HW hgl).mono ?_
  rintro r w9 ⟨rfl, hB⟩
  replace HA1 := HA1.below hB
  replace HW := HW.below hB
  replace HG := HG.below hB
  replace RG := RG.below hB
  replace BB := Below.stp BB hB
  have sw9 := hB.size
  clear hB
  clear HG
  go_wp2_with fail
  refine (markIntS_any _ _ _ w3.heap.size 1 _ RG (by omega)).mono ?_
  rintro r w10 ⟨rfl, HM, -, hB, hO⟩
  replace HA1 := HA1.of_block (fun b h => hO b (HA1.lt b h) (fun h' => by have := lA1 b h; have := lHG b h'; omega))
  replace HW := HW.of_block (fun b h => hO b (HW.lt b h) (fun h' => by have := lHW b h; have := lHG b h'; omega))
  replace BB := BB.trans (hB.mono (by omega))
  have sw10 := hB.size
  clear hB hO RG
  have hq : ¬ (((1 + gs.length : Nat) : Int) < 0) := by omega
  go_wp2_with fail
  refine (heldIntS_any _ _ gs.length 1 _ HM (by omega)).mono ?_
  rintro r wh ⟨rfl, hwh⟩
  rw [hwh]
  clear hwh wh
  go_wp2_with fail
  refine (toIntS_any _ _ _ _ HA1 hle1).mono ?_
  rintro r w11 ⟨H91a, rfl, H91, -, hB⟩
  replace HA1 := HA1.below hB
  replace HW := HW.below hB
  replace HM := HM.below hB
  replace BB := Below.stp BB hB
  have sw11 := hB.size
  clear hB
  go_wp2_with fail
  refine (HI.out _ _ H91).mono ?_
  rintro r w12 ⟨HHa, HHc, rfl, HH, -, hB⟩
  replace HA1 := HA1.below hB
  replace HW := HW.below hB
  replace HM := HM.below hB
  replace H91 := H91.below hB
  replace BB := Below.stp BB hB
  have lHH := HH.lt
  have sw12 := hB.size
  clear hB
  go_wp2_with fail
  refine (eqIntS_same _ _ _ _ gs _ HH HW hgl).mono ?_
  rintro r w13 ⟨rfl, hB⟩
  replace HA1 := HA1.below hB
  replace HW := HW.below hB
  replace HM := HM.below hB
  replace H91 := H91.below hB
  replace HH := HH.below hB
  replace BB := Below.stp BB hB
  have sw13 := hB.size
  clear hB
  go_wp2_with fail
  refine (heldIntS_any _ _ gs.length 1 _ HM (by omega)).mono ?_
  rintro r wh ⟨rfl, hwh⟩
  rw [hwh]
  clear hwh wh
  go_wp2
  go_ret
  exact ⟨rfl, BB⟩

end Go.Proofs.Ytmpchddfijcjfaa
