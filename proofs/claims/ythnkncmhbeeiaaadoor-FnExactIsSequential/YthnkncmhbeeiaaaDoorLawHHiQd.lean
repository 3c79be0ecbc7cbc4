/-
  The walk of the law FnExactIsSequential, the contracts of spec.IsSequential and impl.IsSequential given: at all that can be read it answers true and leaves what was there as it was.
-/
import Derived.Test.YthnkncmhbeeiaaaDoorCllL
import Derived.Test.YthnkncmhbeeiaaaDoorInts
import Derived.Test.YthnkncmhbeeiaaaDoorLawGE
namespace Go.Proofs.YthnkncmhbeeiaaaDoor
open Go.RowKit

set_option maxRecDepth 100000 in
set_option maxHeartbeats 4000000 in
theorem lawSeqH (zs0 : List Cl) (b ok : Bool) (a0 : Option Addr) (c0 : Nat) (w : World) (HA0 : Cls w a0 zs0) (hm0 : zs0.length ≤ maxLen)
    (HS0 : ∀ (u : World) (x0 : Option Addr), Cls u x0 zs0 → Calls Tryd.prog 11 #[.slice x0 zs0.length zs0.length] u fun e u' => e = .returned (.tuple #[.bool b, .bool ok]) ∧ Below u.heap.size u u')
    (HI0 : ∀ (u : World) (x0 : Option Addr), Below w.heap.size w u → Cls u x0 zs0 → Calls Tryd.prog 12 #[.slice x0 zs0.length zs0.length] u fun e u' => e = .returned (.tuple #[.bool b, .bool ok]) ∧ Below u.heap.size u u') :
    Calls Tryd.prog 4 #[.slice a0 zs0.length c0] w fun r w' => r = .returned (.bool true) ∧ Below w.heap.size w w' := by
  have hT : (ok != ok) = false := by cases ok <;> rfl
  have hT2 : (b != b) = false := by cases b <;> rfl
  have HS : Hid (∀ (u : World) (x0 : Option Addr), Cls u x0 zs0 → Calls Tryd.prog 11 #[.slice x0 zs0.length zs0.length] u fun e u' => e = .returned (.tuple #[.bool b, .bool ok]) ∧ Below u.heap.size u u') := HS0
  have HI : Hid (∀ (u : World) (x0 : Option Addr), Below w.heap.size w u → Cls u x0 zs0 → Calls Tryd.prog 12 #[.slice x0 zs0.length zs0.length] u fun e u' => e = .returned (.tuple #[.bool b, .bool ok]) ∧ Below u.heap.size u u') := HI0
  clear HS0 HI0
  have hml0 := hm0
  unfold maxLen at hml0
  by_cases hbig0 : (1048576 : Int) < zs0.length
  · have HZ : Hid (szC zs0.length = -1) := szC_neg hbig0
    go_enter Tryd.func4, Tryd.ntmps4
    go_wp2_with fail
    refine (szCallS_l _ _ _ _ hm0).mono ?_
    rintro r w1 ⟨hr, rfl⟩
    rw [HZ.out] at hr; subst hr
    go_wp2
    go_ret
    exact ⟨rfl, Below.refl _ _⟩
  have hle0 : zs0.length ≤ 1048576 := by omega
  have HZ0 : Hid (szC zs0.length = 1048576 - zs0.length) := szC_pos hle0
  have BB : Below w.heap.size w w := Below.refl _ _
  go_enter Tryd.func4, Tryd.ntmps4
  go_wp2_with fail
  refine (szCallS_l _ _ _ _ hm0).mono ?_
  rintro r w1 ⟨hr, hw1⟩
  rw [HZ0.out] at hr; subst hr
  rw [hw1]
  clear hw1 w1
  go_wp2_with fail
  refine (toCallS_row _ _ _ _ HA0 hle0).mono ?_
  rintro r w1 ⟨H10a, rfl, H10, -, hB⟩
  replace HA0 := HA0.below hB
  replace BB := Below.stp BB hB
  clear hB
  go_wp2_with fail
  refine (HS.out _ _ H10).mono ?_
  rintro r w2 ⟨rfl, hB⟩
  replace HA0 := HA0.below hB
  replace H10 := H10.below hB
  replace BB := Below.stp BB hB
  clear hB
  clear HS H10
  go_wp2_with fail
  refine (toCallS_row _ _ _ _ HA0 hle0).mono ?_
  rintro r w3 ⟨HX0a, rfl, HX0, -, hB⟩
  replace HA0 := HA0.below hB
  replace BB := Below.stp BB hB
  clear hB
  go_wp2_with fail
  refine (HI.out _ _ BB HX0).mono ?_
  rintro r w4 ⟨rfl, hB⟩
  replace HA0 := HA0.below hB
  replace HX0 := HX0.below hB
  replace BB := Below.stp BB hB
  clear hB
  go_wp2_with fail
  refine (toCallS_row _ _ _ _ HA0 hle0).mono ?_
  rintro r w5 ⟨H7a, rfl, H7, -, hB⟩
  replace HA0 := HA0.below hB
  replace HX0 := HX0.below hB
  replace BB := Below.stp BB hB
  clear hB
  go_wp2_with fail
  refine (eqCallS_same _ _ _ _ zs0 _ HX0 H7 hm0).mono ?_
  rintro r w6 ⟨rfl, hB⟩
  replace HA0 := HA0.below hB
  replace HX0 := HX0.below hB
  replace H7 := H7.below hB
  replace BB := Below.stp BB hB
  clear hB
  clear H7
  go_wp2
  go_ret
  exact ⟨rfl, BB⟩

end Go.Proofs.YthnkncmhbeeiaaaDoor
