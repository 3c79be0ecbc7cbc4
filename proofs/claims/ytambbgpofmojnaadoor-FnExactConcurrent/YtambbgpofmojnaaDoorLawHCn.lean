/-
  The walk of the law FnExactConcurrent, the contracts of spec.Concurrent and impl.Concurrent given: at all that can be read it answers true and leaves what was there as it was.
-/
import Derived.Test.YtambbgpofmojnaaDoorEvs
import Derived.Test.YtambbgpofmojnaaDoorLawGE
import Derived.Test.YtambbgpofmojnaaDoorLst24
namespace Go.Proofs.YtambbgpofmojnaaDoor
open Go.RowKit

set_option maxRecDepth 100000 in
set_option maxHeartbeats 4000000 in
theorem lawConcH (z0 : Int) (zs1 : List Ev) (n : Int) (ok : Bool) (a1 : Option Addr) (c1 : Nat) (w : World) (HA1 : Evs w a1 zs1) (hm1 : zs1.length ≤ maxLen) (HTab : TabQ w)
    (HS0 : ∀ (u : World) (x1 : Option Addr), Evs u x1 zs1 → TabQ u → Calls Tryd.prog 14 #[.int .i64 z0, .slice x1 zs1.length zs1.length] u fun e u' => e = .returned (.tuple #[.int .i64 n, .bool ok]) ∧ Below u.heap.size u u')
    (HI0 : ∀ (u : World) (x1 : Option Addr), Evs u x1 zs1 → TabQ u → Calls Tryd.prog 15 #[.int .i64 z0, .slice x1 zs1.length zs1.length] u fun e u' => e = .returned (.tuple #[.int .i64 n, .bool ok]) ∧ Below u.heap.size u u') :
    Calls Tryd.prog 4 #[.int .i64 z0, .slice a1 zs1.length c1] w fun r w' => r = .returned (.bool true) ∧ Below w.heap.size w w' := by
  have hT : (ok != ok) = false := by cases ok <;> rfl
  have hT2 : (n != n) = false := by simp
  have HS : Hid (∀ (u : World) (x1 : Option Addr), Evs u x1 zs1 → TabQ u → Calls Tryd.prog 14 #[.int .i64 z0, .slice x1 zs1.length zs1.length] u fun e u' => e = .returned (.tuple #[.int .i64 n, .bool ok]) ∧ Below u.heap.size u u') := HS0
  have HI : Hid (∀ (u : World) (x1 : Option Addr), Evs u x1 zs1 → TabQ u → Calls Tryd.prog 15 #[.int .i64 z0, .slice x1 zs1.length zs1.length] u fun e u' => e = .returned (.tuple #[.int .i64 n, .bool ok]) ∧ Below u.heap.size u u') := HI0
  clear HS0 HI0
  have hml1 := hm1
  unfold maxLen at hml1
  by_cases hbig1 : (1048576 : Int) < zs1.length
  · have HZ : Hid (szE zs1.length = -1) := szE_neg hbig1
    go_enter Tryd.func4, Tryd.ntmps4
    go_wp2_with fail
    refine (szEventS_any _ _ _ _ hm1).mono ?_
    rintro r w1 ⟨hr, rfl⟩
    rw [HZ.out] at hr; subst hr
    go_wp2
    go_ret
    exact ⟨rfl, Below.refl _ _⟩
  have hle1 : zs1.length ≤ 1048576 := by omega
  have HZ1 : Hid (szE zs1.length = 1048576 - zs1.length) := szE_pos hle1
  have BB : Below w.heap.size w w := Below.refl _ _
  go_enter Tryd.func4, Tryd.ntmps4
  go_wp2_with fail
  refine (szEventS_any _ _ _ _ hm1).mono ?_
  rintro r w1 ⟨hr, hw1⟩
  rw [HZ1.out] at hr; subst hr
  rw [hw1]
  clear hw1 w1
  go_wp2_with fail
  refine (toEventS_any _ _ _ _ HA1 hle1).mono ?_
  rintro r w1 ⟨H11a, rfl, H11, -, hB⟩
  replace HA1 := HA1.below hB
  replace BB := Below.stp BB hB
  clear hB
  go_wp2_with fail
  refine (HS.out _ _ H11 (HTab.bel BB)).mono ?_
  rintro r w2 ⟨rfl, hB⟩
  replace HA1 := HA1.below hB
  replace H11 := H11.below hB
  replace BB := Below.stp BB hB
  clear hB
  clear HS H11
  go_wp2_with fail
  refine (toEventS_any _ _ _ _ HA1 hle1).mono ?_
  rintro r w3 ⟨HX1a, rfl, HX1, -, hB⟩
  replace HA1 := HA1.below hB
  replace BB := Below.stp BB hB
  clear hB
  go_wp2_with fail
  refine (HI.out _ _ HX1 (HTab.bel BB)).mono ?_
  rintro r w4 ⟨rfl, hB⟩
  replace HA1 := HA1.below hB
  replace HX1 := HX1.below hB
  replace BB := Below.stp BB hB
  clear hB
  go_wp2_with fail
  refine (toEventS_any _ _ _ _ HA1 hle1).mono ?_
  rintro r w5 ⟨H7a, rfl, H7, -, hB⟩
  replace HA1 := HA1.below hB
  replace HX1 := HX1.below hB
  replace BB := Below.stp BB hB
  clear hB
  go_wp2_with fail
  refine (eqEventS_same _ _ _ _ zs1 _ HX1 H7 hm1).mono ?_
  rintro r w6 ⟨rfl, hB⟩
  replace HA1 := HA1.below hB
  replace HX1 := HX1.below hB
  replace H7 := H7.below hB
  replace BB := Below.stp BB hB
  clear hB
  clear H7
  go_wp2
  go_ret
  exact ⟨rfl, BB⟩

end Go.Proofs.YtambbgpofmojnaaDoor
