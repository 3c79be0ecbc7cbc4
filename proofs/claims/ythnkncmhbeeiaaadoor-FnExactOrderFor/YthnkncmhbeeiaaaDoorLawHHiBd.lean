/-
  The walk of the law FnExactOrderFor, the contracts of spec.OrderFor and impl.OrderFor given: at all that can be read it answers true and leaves what was there as it was.
-/
import Derived.Test.YthnkncmhbeeiaaaDoorCllL
import Derived.Test.YthnkncmhbeeiaaaDoorCllM
import Derived.Test.YthnkncmhbeeiaaaDoorInts
import Derived.Test.YthnkncmhbeeiaaaDoorLawGE
namespace Go.Proofs.YthnkncmhbeeiaaaDoor
open Go.RowKit

set_option maxRecDepth 100000 in
set_option maxHeartbeats 4000000 in
theorem lawOrderForH (zs0 : List Cl) (gs : List Int) (ok : Bool) (a0 : Option Addr) (c0 : Nat) (w : World) (HA0 : Cls w a0 zs0) (hm0 : zs0.length ≤ maxLen) (hgm : gs.length ≤ 1000000)
    (HS0 : ∀ (u : World) (x0 : Option Addr), Cls u x0 zs0 → Calls Tryd.prog 13 #[.slice x0 zs0.length zs0.length] u fun e u' => ∃ a' c', e = .returned (.tuple #[.slice a' gs.length c', .bool ok]) ∧ Ints u' a' gs ∧ RowI u' u.heap.size a' gs.length ∧ Below u.heap.size u u')
    (HI0 : ∀ (u : World) (x0 : Option Addr), Below w.heap.size w u → Cls u x0 zs0 → Calls Tryd.prog 14 #[.slice x0 zs0.length zs0.length] u fun e u' => ∃ a' c', e = .returned (.tuple #[.slice a' gs.length c', .bool ok]) ∧ Ints u' a' gs ∧ RowI u' u.heap.size a' gs.length ∧ Below u.heap.size u u') :
    Calls Tryd.prog 5 #[.slice a0 zs0.length c0] w fun r w' => r = .returned (.bool true) ∧ Below w.heap.size w w' := by
  have hT : (ok != ok) = false := by cases ok <;> rfl
  have hgl : gs.length ≤ maxLen := by unfold maxLen; omega
  have HS : Hid (∀ (u : World) (x0 : Option Addr), Cls u x0 zs0 → Calls Tryd.prog 13 #[.slice x0 zs0.length zs0.length] u fun e u' => ∃ a' c', e = .returned (.tuple #[.slice a' gs.length c', .bool ok]) ∧ Ints u' a' gs ∧ RowI u' u.heap.size a' gs.length ∧ Below u.heap.size u u') := HS0
  have HI : Hid (∀ (u : World) (x0 : Option Addr), Below w.heap.size w u → Cls u x0 zs0 → Calls Tryd.prog 14 #[.slice x0 zs0.length zs0.length] u fun e u' => ∃ a' c', e = .returned (.tuple #[.slice a' gs.length c', .bool ok]) ∧ Ints u' a' gs ∧ RowI u' u.heap.size a' gs.length ∧ Below u.heap.size u u') := HI0
  clear HS0 HI0
  have lA0 := HA0.lt
  have hml0 := hm0
  unfold maxLen at hml0
  by_cases hbig0 : (1048576 : Int) < zs0.length
  · have HZ : Hid (szC zs0.length = -1) := szC_neg hbig0
    go_enter Tryd.func5, Tryd.ntmps5
    go_wp2_with fail
    refine (szCallS_l _ _ _ _ hm0).mono ?_
    rintro r w1 ⟨hr, rfl⟩
    rw [HZ.out] at hr; subst hr
    go_wp2
    go_ret
    exact ⟨rfl, Below.refl _ _⟩
  have hle0 : zs0.length ≤ 1048576 := by omega
  have HZ0 : Hid (szC zs0.length = 1048576 - zs0.length) := szC_pos hle0
  have BB : Below w.heap.size w w := Below.refl _ _
  go_enter Tryd.func5, Tryd.ntmps5
  go_wp2_with fail
  refine (szCallS_l _ _ _ _ hm0).mono ?_
  rintro r w1 ⟨hr, hw1⟩
  rw [HZ0.out] at hr; subst hr
  rw [hw1]
  clear hw1 w1
  go_wp2_with fail
  refine (toCallS_row _ _ _ _ HA0 hle0).mono ?_
  rintro r w1 ⟨H10a, rfl, H10, -, hB⟩
  replace HA0 := HA0.below hB
  replace BB := Below.stp BB hB
  have sw1 := hB.size
  clear hB
  go_wp2_with fail
  refine (HS.out _ _ H10).mono ?_
  rintro r w2 ⟨HWa, HWc, rfl, HW, -, hB⟩
  replace HA0 := HA0.below hB
  replace H10 := H10.below hB
  replace BB := Below.stp BB hB
  have lHW := HW.lt
  have sw2 := hB.size
  clear hB
  clear HS H10
  go_wp2_with fail
  refine (toCallS_row _ _ _ _ HA0 hle0).mono ?_
  rintro r w3 ⟨HX0a, rfl, HX0, RX0, hB⟩
  replace HA0 := HA0.below hB
  replace HW := HW.below hB
  replace BB := Below.stp BB hB
  have lHX0 : ∀ b, InI HX0a zs0.length b → w2.heap.size ≤ b ∧ b < w3.heap.size := fun b h => RX0.lt h
  have sw3 := hB.size
  clear hB
  go_wp2_with fail
  refine (HI.out _ _ BB HX0).mono ?_
  rintro r w4 ⟨HGa, HGc, rfl, HG, RG, hB⟩
  replace HA0 := HA0.below hB
  replace HW := HW.below hB
  replace HX0 := HX0.below hB
  replace RX0 := RX0.below hB
  replace BB := Below.stp BB hB
  have lHG : ∀ b, InI HGa gs.length b → w3.heap.size ≤ b ∧ b < w4.heap.size := fun b h => RG.lt h
  have sw4 := hB.size
  clear hB
  go_wp2_with fail
  refine (eqIntS_same _ _ _ _ gs _ HG HW hgl).mono ?_
  rintro r w5 ⟨rfl, hB⟩
  replace HA0 := HA0.below hB
  replace HW := HW.below hB
  replace HX0 := HX0.below hB
  replace RX0 := RX0.below hB
  replace HG := HG.below hB
  replace RG := RG.below hB
  replace BB := Below.stp BB hB
  have sw5 := hB.size
  clear hB
  go_wp2_with fail
  refine (toCallS_row _ _ _ _ HA0 hle0).mono ?_
  rintro r w6 ⟨H7a, rfl, H7, -, hB⟩
  replace HA0 := HA0.below hB
  replace HW := HW.below hB
  replace HX0 := HX0.below hB
  replace RX0 := RX0.below hB
  replace HG := HG.below hB
  replace RG := RG.below hB
  replace BB := Below.stp BB hB
  have sw6 := hB.size
  clear hB
  go_wp2_with fail
  refine (eqCallS_same _ _ _ _ zs0 _ HX0 H7 hm0).mono ?_
  rintro r w7 ⟨rfl, hB⟩
  replace HA0 := HA0.below hB
  replace HW := HW.below hB
  replace HX0 := HX0.below hB
  replace RX0 := RX0.below hB
  replace HG := HG.below hB
  replace RG := RG.below hB
  replace H7 := H7.below hB
  replace BB := Below.stp BB hB
  have sw7 := hB.size
  clear hB
  clear H7
  clear HX0
  go_wp2_with fail
  refine (markCallS_any _ _ _ w2.heap.size (1) _ RX0 (by omega)).mono ?_
  rintro r w8 ⟨rfl, -, -, hB, hO⟩
  replace HA0 := HA0.of_block (fun b h => hO b (HA0.lt b h) (fun h' => by have := lA0 b h; have := lHX0 b h'; omega))
  replace HW := HW.of_block (fun b h => hO b (HW.lt b h) (fun h' => by have := lHW b h; have := lHX0 b h'; omega))
  replace HG := HG.of_block (fun b h => hO b (HG.lt b h) (fun h' => by have := lHG b h; have := lHX0 b h'; omega))
  replace RG := RG.of_block (fun b h => hO b (RG.lt h).2 (fun h' => by have := lHG b h; have := lHX0 b h'; omega))
  replace BB := BB.trans (hB.mono (by omega))
  have sw8 := hB.size
  clear hB hO RX0
  have hk : ¬ (((1 + 6 * zs0.length : Nat) : Int) < 0) := by omega
  go_wp2_with fail
  refine (eqIntS_same _ _ _ _ gs _ HG HW hgl).mono ?_
  rintro r w9 ⟨rfl, hB⟩
  replace HA0 := HA0.below hB
  replace HW := HW.below hB
  replace HG := HG.below hB
  replace RG := RG.below hB
  replace BB := Below.stp BB hB
  have sw9 := hB.size
  clear hB
  clear HG
  go_wp2_with fail
  refine (markIntS_any _ _ _ w3.heap.size 1 _ RG (by omega)).mono ?_
  rintro r w10 ⟨rfl, HM, -, hB, hO⟩
  replace HA0 := HA0.of_block (fun b h => hO b (HA0.lt b h) (fun h' => by have := lA0 b h; have := lHG b h'; omega))
  replace HW := HW.of_block (fun b h => hO b (HW.lt b h) (fun h' => by have := lHW b h; have := lHG b h'; omega))
  replace BB := BB.trans (hB.mono (by omega))
  have sw10 := hB.size
  clear hB hO RG
  have hq : ¬ (((1 + gs.length : Nat) : Int) < 0) := by omega
  go_wp2_with fail
  refine (heldIntS_any _ _ gs.length 1 _ HM (by omega)).mono ?_
  rintro r wh ⟨rfl, hwh⟩
  rw [hwh]
  clear hwh wh
  go_wp2_with fail
  refine (toCallS_row _ _ _ _ HA0 hle0).mono ?_
  rintro r w11 ⟨H90a, rfl, H90, -, hB⟩
  replace HA0 := HA0.below hB
  replace HW := HW.below hB
  replace HM := HM.below hB
  replace BB := Below.stp BB hB
  have sw11 := hB.size
  clear hB
  go_wp2_with fail
  refine (HI.out _ _ BB H90).mono ?_
  rintro r w12 ⟨HHa, HHc, rfl, HH, -, hB⟩
  replace HA0 := HA0.below hB
  replace HW := HW.below hB
  replace HM := HM.below hB
  replace H90 := H90.below hB
  replace BB := Below.stp BB hB
  have lHH := HH.lt
  have sw12 := hB.size
  clear hB
  go_wp2_with fail
  refine (eqIntS_same _ _ _ _ gs _ HH HW hgl).mono ?_
  rintro r w13 ⟨rfl, hB⟩
  replace HA0 := HA0.below hB
  replace HW := HW.below hB
  replace HM := HM.below hB
  replace H90 := H90.below hB
  replace HH := HH.below hB
  replace BB := Below.stp BB hB
  have sw13 := hB.size
  clear hB
  go_wp2_with fail
  refine (heldIntS_any _ _ gs.length 1 _ HM (by omega)).mono ?_
  rintro r wh ⟨rfl, hwh⟩
  rw [hwh]
  clear hwh wh
  go_wp2
  go_ret
  exact ⟨rfl, BB⟩

end Go.Proofs.YthnkncmhbeeiaaaDoor
