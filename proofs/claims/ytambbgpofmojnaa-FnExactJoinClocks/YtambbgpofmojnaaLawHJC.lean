/-
  The walk of the law FnExactJoinClocks, the contracts of spec.JoinClocks and impl.JoinClocks given: at all that can be read it answers true and leaves what was there as it was.
-/
import Derived.Test.YtambbgpofmojnaaInts
import Derived.Test.YtambbgpofmojnaaLawGE
namespace Go.Proofs.Ytambbgpofmojnaa
open Go.RowKit

set_option maxRecDepth 100000 in
set_option maxHeartbeats 4000000 in
theorem lawJoinH (zs0 : List Int) (zs1 : List Int) (gs : List Int) (ok : Bool) (a0 : Option Addr) (c0 : Nat) (a1 : Option Addr) (c1 : Nat) (w : World) (HA0 : Ints w a0 zs0) (hm0 : zs0.length ≤ maxLen) (HA1 : Ints w a1 zs1) (hm1 : zs1.length ≤ maxLen) (hgm : gs.length ≤ 1000000)
    (HS0 : ∀ (u : World) (x0 : Option Addr) (x1 : Option Addr), Ints u x0 zs0 → Ints u x1 zs1 → Calls Try.prog 30 #[.slice x0 zs0.length zs0.length, .slice x1 zs1.length zs1.length] u fun e u' => ∃ a' c', e = .returned (.tuple #[.slice a' gs.length c', .bool ok]) ∧ Ints u' a' gs ∧ RowI u' u.heap.size a' gs.length ∧ Below u.heap.size u u')
    (HI0 : ∀ (u : World) (x0 : Option Addr) (x1 : Option Addr), Ints u x0 zs0 → Ints u x1 zs1 → Calls Try.prog 31 #[.slice x0 zs0.length zs0.length, .slice x1 zs1.length zs1.length] u fun e u' => ∃ a' c', e = .returned (.tuple #[.slice a' gs.length c', .bool ok]) ∧ Ints u' a' gs ∧ RowI u' u.heap.size a' gs.length ∧ Below u.heap.size u u') :
    Calls Try.prog 8 #[.slice a0 zs0.length c0, .slice a1 zs1.length c1] w fun r w' => r = .returned (.bool true) ∧ Below w.heap.size w w' := by
  have hT : (ok != ok) = false := by cases ok <;> rfl
  have hgl : gs.length ≤ maxLen := by unfold maxLen; omega
  have HS : Hid (∀ (u : World) (x0 : Option Addr) (x1 : Option Addr), Ints u x0 zs0 → Ints u x1 zs1 → Calls Try.prog 30 #[.slice x0 zs0.length zs0.length, .slice x1 zs1.length zs1.length] u fun e u' => ∃ a' c', e = .returned (.tuple #[.slice a' gs.length c', .bool ok]) ∧ Ints u' a' gs ∧ RowI u' u.heap.size a' gs.length ∧ Below u.heap.size u u') := HS0
  have HI : Hid (∀ (u : World) (x0 : Option Addr) (x1 : Option Addr), Ints u x0 zs0 → Ints u x1 zs1 → Calls Try.prog 31 #[.slice x0 zs0.length zs0.length, .slice x1 zs1.length zs1.length] u fun e u' => ∃ a' c', e = .returned (.tuple #[.slice a' gs.length c', .bool ok]) ∧ Ints u' a' gs ∧ RowI u' u.heap.size a' gs.length ∧ Below u.heap.size u u') := HI0
  clear HS0 HI0
  have lA0 := HA0.lt
  have lA1 := HA1.lt
  have hml0 := hm0
  unfold maxLen at hml0
  have hml1 := hm1
  unfold maxLen at hml1
  by_cases hbig0 : (1048576 : Int) < zs0.length
  · go_enter Try.func8, Try.ntmps8
    go_wp2
    go_ret
    exact ⟨rfl, Below.refl _ _⟩
  have hle0 : zs0.length ≤ 1048576 := by omega
  by_cases hbig1 : (1048576 : Int) < zs1.length
  · go_enter Try.func8, Try.ntmps8
    go_wp2
    go_ret
    exact ⟨rfl, Below.refl _ _⟩
  have hle1 : zs1.length ≤ 1048576 := by omega
  have BB : Below w.heap.size w w := Below.refl _ _
  go_enter Try.func8, Try.ntmps8
  go_wp2_with fail
  refine (toIntS_any _ _ _ _ HA0 hle0).mono ?_
  rintro r w1 ⟨H10a, rfl, H10, -, hB⟩
  replace HA0 := HA0.below hB
  replace HA1 := HA1.below hB
  replace BB := Below.stp BB hB
  have sw1 := hB.size
  clear hB
  go_wp2_with fail
  refine (toIntS_any _ _ _ _ HA1 hle1).mono ?_
  rintro r w2 ⟨H11a, rfl, H11, -, hB⟩
  replace HA0 := HA0.below hB
  replace HA1 := HA1.below hB
  replace H10 := H10.below hB
  replace BB := Below.stp BB hB
  have sw2 := hB.size
  clear hB
  go_wp2_with fail
  refine (HS.out _ _ _ H10 H11).mono ?_
  rintro r w3 ⟨HWa, HWc, rfl, HW, -, hB⟩
  replace HA0 := HA0.below hB
  replace HA1 := HA1.below hB
  replace H10 := H10.below hB
  replace H11 := H11.below hB
  replace BB := Below.stp BB hB
  have lHW := HW.lt
  have sw3 := hB.size
  clear hB
  clear HS H10 H11
  go_wp2_with fail
  refine (toIntS_any _ _ _ _ HA0 hle0).mono ?_
  rintro r w4 ⟨HX0a, rfl, HX0, RX0, hB⟩
  replace HA0 := HA0.below hB
  replace HA1 := HA1.below hB
  replace HW := HW.below hB
  replace BB := Below.stp BB hB
  have lHX0 : ∀ b, InI HX0a zs0.length b → w3.heap.size ≤ b ∧ b < w4.heap.size := fun b h => RX0.lt h
  have sw4 := hB.size
  clear hB
  go_wp2_with fail
  refine (toIntS_any _ _ _ _ HA1 hle1).mono ?_
  rintro r w5 ⟨HX1a, rfl, HX1, RX1, hB⟩
  replace HA0 := HA0.below hB
  replace HA1 := HA1.below hB
  replace HW := HW.below hB
  replace HX0 := HX0.below hB
  replace RX0 := RX0.below hB
  replace BB := Below.stp BB hB
  have lHX1 : ∀ b, InI HX1a zs1.length b → w4.heap.size ≤ b ∧ b < w5.heap.size := fun b h => RX1.lt h
  have sw5 := hB.size
  clear hB
  go_wp2_with fail
  refine (HI.out _ _ _ HX0 HX1).mono ?_
  rintro r w6 ⟨HGa, HGc, rfl, HG, RG, hB⟩
  replace HA0 := HA0.below hB
  replace HA1 := HA1.below hB
  replace HW := HW.below hB
  replace HX0 := HX0.below hB
  replace RX0 := RX0.below hB
  replace HX1 := HX1.below hB
  replace RX1 := RX1.below hB
  replace BB := Below.stp BB hB
  have lHG : ∀ b, InI HGa gs.length b → w5.heap.size ≤ b ∧ b < w6.heap.size := fun b h => RG.lt h
  have sw6 := hB.size
  clear hB
  go_wp2_with fail
  refine (eqIntS_same _ _ _ _ gs _ HG HW hgl).mono ?_
  rintro r w7 ⟨rfl, hB⟩
  replace HA0 := HA0.below hB
  replace HA1 := HA1.below hB
  replace HW := HW.below hB
  replace HX0 := HX0.below hB
  replace RX0 := RX0.below hB
  replace HX1 := HX1.below hB
  replace RX1 := RX1.below hB
  replace HG := HG.below hB
  replace RG := RG.below hB
  replace BB := Below.stp BB hB
  have sw7 := hB.size
  clear hB
  go_wp2_with fail
  refine (toIntS_any _ _ _ _ HA0 hle0).mono ?_
  rintro r w8 ⟨H7a, rfl, H7, -, hB⟩
  replace HA0 := HA0.below hB
  replace HA1 := HA1.below hB
  replace HW := HW.below hB
  replace HX0 := HX0.below hB
  replace RX0 := RX0.below hB
  replace HX1 := HX1.below hB
  replace RX1 := RX1.below hB
  replace HG := HG.below hB
  replace RG := RG.below hB
  replace BB := Below.stp BB hB
  have sw8 := hB.size
  clear hB
  go_wp2_with fail
  refine (eqIntS_same _ _ _ _ zs0 _ HX0 H7 hm0).mono ?_
  rintro r w9 ⟨rfl, hB⟩
  replace HA0 := HA0.below hB
  replace HA1 := HA1.below hB
  replace HW := HW.below hB
  replace HX0 := HX0.below hB
  replace RX0 := RX0.below hB
  replace HX1 := HX1.below hB
  replace RX1 := RX1.below hB
  replace HG := HG.below hB
  replace RG := RG.below hB
  replace H7 := H7.below hB
  replace BB := Below.stp BB hB
  have sw9 := hB.size
  clear hB
  clear H7
  go_wp2_with fail
  refine (toIntS_any _ _ _ _ HA1 hle1).mono ?_
  rintro r w10 ⟨H7a, rfl, H7, -, hB⟩
  replace HA0 := HA0.below hB
  replace HA1 := HA1.below hB
  replace HW := HW.below hB
  replace HX0 := HX0.below hB
  replace RX0 := RX0.below hB
  replace HX1 := HX1.below hB
  replace RX1 := RX1.below hB
  replace HG := HG.below hB
  replace RG := RG.below hB
  replace BB := Below.stp BB hB
  have sw10 := hB.size
  clear hB
  go_wp2_with fail
  refine (eqIntS_same _ _ _ _ zs1 _ HX1 H7 hm1).mono ?_
  rintro r w11 ⟨rfl, hB⟩
  replace HA0 := HA0.below hB
  replace HA1 := HA1.below hB
  replace HW := HW.below hB
  replace HX0 := HX0.below hB
  replace RX0 := RX0.below hB
  replace HX1 := HX1.below hB
  replace RX1 := RX1.below hB
  replace HG := HG.below hB
  replace RG := RG.below hB
  replace H7 := H7.below hB
  replace BB := Below.stp BB hB
  have sw11 := hB.size
  clear hB
  clear H7
  clear HX0 HX1
  go_wp2_with fail
  refine (markIntS_any _ _ _ w3.heap.size (1) _ RX0 (by omega)).mono ?_
  rintro r w12 ⟨rfl, -, -, hB, hO⟩
  replace HA0 := HA0.of_block (fun b h => hO b (HA0.lt b h) (fun h' => by have := lA0 b h; have := lHX0 b h'; omega))
  replace HA1 := HA1.of_block (fun b h => hO b (HA1.lt b h) (fun h' => by have := lA1 b h; have := lHX0 b h'; omega))
  replace HW := HW.of_block (fun b h => hO b (HW.lt b h) (fun h' => by have := lHW b h; have := lHX0 b h'; omega))
  replace RX1 := RX1.of_block (fun b h => hO b (RX1.lt h).2 (fun h' => by have := lHX1 b h; have := lHX0 b h'; omega))
  replace HG := HG.of_block (fun b h => hO b (HG.lt b h) (fun h' => by have := lHG b h; have := lHX0 b h'; omega))
  replace RG := RG.of_block (fun b h => hO b (RG.lt h).2 (fun h' => by have := lHG b h; have := lHX0 b h'; omega))
  replace BB := BB.trans (hB.mono (by omega))
  have sw12 := hB.size
  clear hB hO RX0
  go_wp2_with fail
  refine (markIntS_any _ _ _ w4.heap.size (1 + zs0.length) _ RX1 (by omega)).mono ?_
  rintro r w13 ⟨rfl, -, -, hB, hO⟩
  replace HA0 := HA0.of_block (fun b h => hO b (HA0.lt b h) (fun h' => by have := lA0 b h; have := lHX1 b h'; omega))
  replace HA1 := HA1.of_block (fun b h => hO b (HA1.lt b h) (fun h' => by have := lA1 b h; have := lHX1 b h'; omega))
  replace HW := HW.of_block (fun b h => hO b (HW.lt b h) (fun h' => by have := lHW b h; have := lHX1 b h'; omega))
  replace HG := HG.of_block (fun b h => hO b (HG.lt b h) (fun h' => by have := lHG b h; have := lHX1 b h'; omega))
  replace RG := RG.of_block (fun b h => hO b (RG.lt h).2 (fun h' => by have := lHG b h; have := lHX1 b h'; omega))
  replace BB := BB.trans (hB.mono (by omega))
  have sw13 := hB.size
  clear hB hO RX1
  have hk : ¬ (((1 + zs0.length + zs1.length : Nat) : Int) < 0) := by omega
  go_wp2_with fail
  refine (eqIntS_same _ _ _ _ gs _ HG HW hgl).mono ?_
  rintro r w14 ⟨rfl, hB⟩
  replace HA0 := HA0.below hB
  replace HA1 := HA1.below hB
  replace HW := HW.below hB
  replace HG := HG.below hB
  replace RG := RG.below hB
  replace BB := Below.stp BB hB
  have sw14 := hB.size
  clear hB
  clear HG
  go_wp2_with fail
  refine (markIntS_any _ _ _ w5.heap.size 1 _ RG (by omega)).mono ?_
  rintro r w15 ⟨rfl, HM, -, hB, hO⟩
  replace HA0 := HA0.of_block (fun b h => hO b (HA0.lt b h) (fun h' => by have := lA0 b h; have := lHG b h'; omega))
  replace HA1 := HA1.of_block (fun b h => hO b (HA1.lt b h) (fun h' => by have := lA1 b h; have := lHG b h'; omega))
  replace HW := HW.of_block (fun b h => hO b (HW.lt b h) (fun h' => by have := lHW b h; have := lHG b h'; omega))
  replace BB := BB.trans (hB.mono (by omega))
  have sw15 := hB.size
  clear hB hO RG
  have hq : ¬ (((1 + gs.length : Nat) : Int) < 0) := by omega
  go_wp2_with fail
  refine (heldIntS_any _ _ gs.length 1 _ HM (by omega)).mono ?_
  rintro r wh ⟨rfl, hwh⟩
  rw [hwh]
  clear hwh wh
  go_wp2_with fail
  refine (toIntS_any _ _ _ _ HA0 hle0).mono ?_
  rintro r w16 ⟨H90a, rfl, H90, -, hB⟩
  replace HA0 := HA0.below hB
  replace HA1 := HA1.below hB
  replace HW := HW.below hB
  replace HM := HM.below hB
  replace BB := Below.stp BB hB
  have sw16 := hB.size
  clear hB
  go_wp2_with fail
  refine (toIntS_any _ _ _ _ HA1 hle1).mono ?_
  rintro r w17 ⟨H91a, rfl, H91, -, hB⟩
  replace HA0 := HA0.below hB
  replace HA1 := HA1.below hB
  replace HW := HW.below hB
  replace HM := HM.below hB
  replace H90 := H90.below hB
  replace BB := Below.stp BB hB
  have sw17 := hB.size
  clear hB
  go_wp2_with fail
  refine (HI.out _ _ _ H90 H91).mono ?_
  rintro r w18 ⟨HHa, HHc, rfl, HH, -, hB⟩
  replace HA0 := HA0.below hB
  replace HA1 := HA1.below hB
  replace HW := HW.below hB
  replace HM := HM.below hB
  replace H90 := H90.below hB
  replace H91 := H91.below hB
  replace BB := Below.stp BB hB
  have lHH := HH.lt
  have sw18 := hB.size
  clear hB
  go_wp2_with fail
  refine (eqIntS_same _ _ _ _ gs _ HH HW hgl).mono ?_
  rintro r w19 ⟨rfl, hB⟩
  replace HA0 := HA0.below hB
  replace HA1 := HA1.below hB
  replace HW := HW.below hB
  replace HM := HM.below hB
  replace H90 := H90.below hB
  replace H91 := H91.below hB
  replace HH := HH.below hB
  replace BB := Below.stp BB hB
  have sw19 := hB.size
  clear hB
  go_wp2_with fail
  refine (heldIntS_any _ _ gs.length 1 _ HM (by omega)).mono ?_
  rintro r wh ⟨rfl, hwh⟩
  rw [hwh]
  clear hwh wh
  go_wp2
  go_ret
  exact ⟨rfl, BB⟩

end Go.Proofs.Ytambbgpofmojnaa
