/-
  The walk of the law FnExactLogsMatch, the contracts of spec.LogsMatch and impl.LogsMatch given: at all that can be read it answers true and leaves what was there as it was.
-/
import Derived.Test.YtglncbhbeikclaaEry
import Derived.Test.YtglncbhbeikclaaBls
import Derived.Test.YtglncbhbeikclaaLawGE
namespace Go.Proofs.Ytglncbhbeikclaa
open Go.RowKit

set_option maxRecDepth 100000 in
set_option maxHeartbeats 4000000 in
theorem lawLogsMatchH (zs0 : List En) (zs1 : List En) (b ok : Bool) (a0 : Option Addr) (c0 : Nat) (a1 : Option Addr) (c1 : Nat) (w : World) (HA0 : Ens w a0 zs0) (hm0 : zs0.length ≤ maxLen) (HA1 : Ens w a1 zs1) (hm1 : zs1.length ≤ maxLen)
    (HS0 : ∀ (u : World) (x0 : Option Addr) (x1 : Option Addr), Ens u x0 zs0 → Ens u x1 zs1 → Calls Try.prog 24 #[.slice x0 zs0.length zs0.length, .slice x1 zs1.length zs1.length] u fun e u' => e = .returned (.tuple #[.bool b, .bool ok]) ∧ Below u.heap.size u u')
    (HI0 : ∀ (u : World) (x0 : Option Addr) (x1 : Option Addr), Ens u x0 zs0 → Ens u x1 zs1 → Calls Try.prog 26 #[.slice x0 zs0.length zs0.length, .slice x1 zs1.length zs1.length] u fun e u' => e = .returned (.tuple #[.bool b, .bool ok]) ∧ Below u.heap.size u u') :
    Calls Try.prog 6 #[.slice a0 zs0.length c0, .slice a1 zs1.length c1] w fun r w' => r = .returned (.bool true) ∧ Below w.heap.size w w' := by
  have hT : (ok != ok) = false := by cases ok <;> rfl
  have hT2 : (b != b) = false := by cases b <;> rfl
  have HS : Hid (∀ (u : World) (x0 : Option Addr) (x1 : Option Addr), Ens u x0 zs0 → Ens u x1 zs1 → Calls Try.prog 24 #[.slice x0 zs0.length zs0.length, .slice x1 zs1.length zs1.length] u fun e u' => e = .returned (.tuple #[.bool b, .bool ok]) ∧ Below u.heap.size u u') := HS0
  have HI : Hid (∀ (u : World) (x0 : Option Addr) (x1 : Option Addr), Ens u x0 zs0 → Ens u x1 zs1 → Calls Try.prog 26 #[.slice x0 zs0.length zs0.length, .slice x1 zs1.length zs1.length] u fun e u' => e = .returned (.tuple #[.bool b, .bool ok]) ∧ Below u.heap.size u u') := HI0
  clear HS0 HI0
  have hml0 := hm0
  unfold maxLen at hml0
  have hml1 := hm1
  unfold maxLen at hml1
  obtain ⟨l0, hl0⟩ : ∃ z, szN zs0.length 1048576 = z := ⟨_, rfl⟩
  have HL0 : Hid (szN zs0.length 1048576 = l0) := hl0
  have hr0 := szN_range zs0.length (left := 1048576) (by omega)
  rw [hl0] at hr0
  clear hl0
  by_cases hb0 : l0 < 0
  · go_enter Try.func6, Try.ntmps6
    go_wp2_with fail
    refine (szEntryS_any _ _ _ _ _ hm0 (by omega) (by omega)).mono ?_
    rintro r w' ⟨hr, hw⟩
    rw [HL0.out] at hr; subst hr
    rw [hw]
    clear hw w'
    go_wp2
    go_ret
    exact ⟨rfl, Below.refl _ _⟩
  obtain ⟨l1, hl1⟩ : ∃ z, szN zs1.length l0 = z := ⟨_, rfl⟩
  have HL1 : Hid (szN zs1.length l0 = l1) := hl1
  have hr1 := szN_range zs1.length (left := l0) (by omega)
  rw [hl1] at hr1
  clear hl1
  by_cases hb1 : l1 < 0
  · go_enter Try.func6, Try.ntmps6
    go_wp2_with fail
    refine (szEntryS_any _ _ _ _ _ hm0 (by omega) (by omega)).mono ?_
    rintro r w' ⟨hr, hw⟩
    rw [HL0.out] at hr; subst hr
    rw [hw]
    clear hw w'
    go_wp2_with fail
    refine (szEntryS_any _ _ _ _ _ hm1 (by omega) (by omega)).mono ?_
    rintro r w' ⟨hr, hw⟩
    rw [HL1.out] at hr; subst hr
    rw [hw]
    clear hw w'
    go_wp2
    go_ret
    exact ⟨rfl, Below.refl _ _⟩
  have hle0 : zs0.length ≤ 1048576 := by have := szN_bound (n := zs0.length) (left := 1048576) (by rw [HL0.out]; omega); omega
  have hle1 : zs1.length ≤ 1048576 := by have := szN_bound (n := zs1.length) (left := l0) (by rw [HL1.out]; omega); omega
  have BB : Below w.heap.size w w := Below.refl _ _
  go_enter Try.func6, Try.ntmps6
  go_wp2_with fail
  refine (szEntryS_any _ _ _ _ _ hm0 (by omega) (by omega)).mono ?_
  rintro r w' ⟨hr, hw⟩
  rw [HL0.out] at hr; subst hr
  rw [hw]
  clear hw w'
  go_wp2_with fail
  refine (szEntryS_any _ _ _ _ _ hm1 (by omega) (by omega)).mono ?_
  rintro r w' ⟨hr, hw⟩
  rw [HL1.out] at hr; subst hr
  rw [hw]
  clear hw w'
  go_wp2_with fail
  refine (toEntryS_any _ _ _ _ HA0 hle0).mono ?_
  rintro r w1 ⟨H10a, rfl, H10, -, hB⟩
  replace HA0 := HA0.below hB
  replace HA1 := HA1.below hB
  replace BB := Below.stp BB hB
  clear hB
  go_wp2_with fail
  refine (toEntryS_any _ _ _ _ HA1 hle1).mono ?_
  rintro r w2 ⟨H11a, rfl, H11, -, hB⟩
  replace HA0 := HA0.below hB
  replace HA1 := HA1.below hB
  replace H10 := H10.below hB
  replace BB := Below.stp BB hB
  clear hB
  go_wp2_with fail
  refine (HS.out _ _ _ H10 H11).mono ?_
  rintro r w3 ⟨rfl, hB⟩
  replace HA0 := HA0.below hB
  replace HA1 := HA1.below hB
  replace H10 := H10.below hB
  replace H11 := H11.below hB
  replace BB := Below.stp BB hB
  clear hB
  clear HS H10 H11
  go_wp2_with fail
  refine (toEntryS_any _ _ _ _ HA0 hle0).mono ?_
  rintro r w4 ⟨HX0a, rfl, HX0, -, hB⟩
  replace HA0 := HA0.below hB
  replace HA1 := HA1.below hB
  replace BB := Below.stp BB hB
  clear hB
  go_wp2_with fail
  refine (toEntryS_any _ _ _ _ HA1 hle1).mono ?_
  rintro r w5 ⟨HX1a, rfl, HX1, -, hB⟩
  replace HA0 := HA0.below hB
  replace HA1 := HA1.below hB
  replace HX0 := HX0.below hB
  replace BB := Below.stp BB hB
  clear hB
  go_wp2_with fail
  refine (HI.out _ _ _ HX0 HX1).mono ?_
  rintro r w6 ⟨rfl, hB⟩
  replace HA0 := HA0.below hB
  replace HA1 := HA1.below hB
  replace HX0 := HX0.below hB
  replace HX1 := HX1.below hB
  replace BB := Below.stp BB hB
  clear hB
  go_wp2_with fail
  refine (toEntryS_any _ _ _ _ HA0 hle0).mono ?_
  rintro r w7 ⟨H7a, rfl, H7, -, hB⟩
  replace HA0 := HA0.below hB
  replace HA1 := HA1.below hB
  replace HX0 := HX0.below hB
  replace HX1 := HX1.below hB
  replace BB := Below.stp BB hB
  clear hB
  go_wp2_with fail
  refine (eqEntryS_same _ _ _ _ zs0 _ HX0 H7 hm0).mono ?_
  rintro r w8 ⟨rfl, hB⟩
  replace HA0 := HA0.below hB
  replace HA1 := HA1.below hB
  replace HX0 := HX0.below hB
  replace HX1 := HX1.below hB
  replace H7 := H7.below hB
  replace BB := Below.stp BB hB
  clear hB
  clear H7
  go_wp2_with fail
  refine (toEntryS_any _ _ _ _ HA1 hle1).mono ?_
  rintro r w9 ⟨H7a, rfl, H7, -, hB⟩
  replace HA0 := HA0.below hB
  replace HA1 := HA1.below hB
  replace HX0 := HX0.below hB
  replace HX1 := HX1.below hB
  replace BB := Below.stp BB hB
  clear hB
  go_wp2_with fail
  refine (eqEntryS_same _ _ _ _ zs1 _ HX1 H7 hm1).mono ?_
  rintro r w10 ⟨rfl, hB⟩
  replace HA0 := HA0.below hB
  replace HA1 := HA1.below hB
  replace HX0 := HX0.below hB
  replace HX1 := HX1.below hB
  replace H7 := H7.below hB
  replace BB := Below.stp BB hB
  clear hB
  clear H7
  go_wp2
  go_ret
  exact ⟨rfl, BB⟩

end Go.Proofs.Ytglncbhbeikclaa
