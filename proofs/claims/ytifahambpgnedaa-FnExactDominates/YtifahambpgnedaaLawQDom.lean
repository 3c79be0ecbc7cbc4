/-
  The walk of the law FnExactDominates: at all lists that can be read it answers true and leaves what was there as it was.
-/
import Derived.Test.YtifahambpgnedaaQDom
import Derived.Test.YtifahambpgnedaaLawGV
namespace Go.Proofs.Ytifahambpgnedaa
open Go.RowKit

set_option maxRecDepth 100000 in
set_option maxHeartbeats 4000000 in
theorem lawDominates_any (L0 : List (List Int)) (L1 : List (List Int)) (a0 : Option Addr) (c0 : Nat) (a1 : Option Addr) (c1 : Nat) (w : World) (HA0 : Intss w a0 L0) (hm0 : L0.length ≤ maxLen) (HA1 : Intss w a1 L1) (hm1 : L1.length ≤ maxLen) :
    Calls Try.prog 6 #[.slice a0 L0.length c0, .slice a1 L1.length c1] w fun r w' => r = .returned (.bool true) ∧ Below w.heap.size w w' := by
  have hT0 : ((domOk L0 L1 && (eachL L0 L1 && !eachL L1 L0)) != (domOk L0 L1 && (eachL L0 L1 && !eachL L1 L0))) = false := by cases (domOk L0 L1 && (eachL L0 L1 && !eachL L1 L0)) <;> rfl
  have hT1 : ((domOk L0 L1) != (domOk L0 L1)) = false := by cases (domOk L0 L1) <;> rfl
  have hu0 := hm0
  unfold maxLen at hu0
  have hu1 := hm1
  unfold maxLen at hu1
  have hr0 := szL_range L0 (left := 1048576) (by omega)
  by_cases hn0 : szL L0 (1048576) < 0
  · go_enter Try.func6, Try.ntmps6
    go_wp2_with fail
    refine (szIntSS_any _ _ _ _ _ HA0 hm0 (by omega) (by omega)).mono ?_
    rintro r wz ⟨rfl, hwz⟩
    rw [hwz]
    clear hwz wz
    go_wp2
    go_ret
    exact ⟨rfl, Below.refl _ _⟩
  have hb0 := (szL_bound (L := L0) (left := 1048576) (by omega)).1
  have hle0 : L0.length ≤ 1048576 := by omega
  have hz0 : ∀ zs ∈ L0, zs.length ≤ 1048576 := fun zs h => by obtain ⟨q, hq⟩ := List.getElem?_of_mem h; have := totI_mem hq; omega
  have hzm0 : ∀ zs ∈ L0, zs.length ≤ maxLen := fun zs h => by have := hz0 zs h; unfold maxLen; omega
  have hr1 := szL_range L1 (left := szL L0 (1048576)) (by omega)
  by_cases hn1 : szL L1 (szL L0 (1048576)) < 0
  · go_enter Try.func6, Try.ntmps6
    go_wp2_with fail
    refine (szIntSS_any _ _ _ _ _ HA0 hm0 (by omega) (by omega)).mono ?_
    rintro r wz ⟨rfl, hwz⟩
    rw [hwz]
    clear hwz wz
    go_wp2_with fail
    refine (szIntSS_any _ _ _ _ _ HA1 hm1 (by omega) (by omega)).mono ?_
    rintro r wz ⟨rfl, hwz⟩
    rw [hwz]
    clear hwz wz
    go_wp2
    go_ret
    exact ⟨rfl, Below.refl _ _⟩
  have hb1 := (szL_bound (L := L1) (left := szL L0 (1048576)) (by omega)).1
  have hle1 : L1.length ≤ 1048576 := by omega
  have hz1 : ∀ zs ∈ L1, zs.length ≤ 1048576 := fun zs h => by obtain ⟨q, hq⟩ := List.getElem?_of_mem h; have := totI_mem hq; omega
  have hzm1 : ∀ zs ∈ L1, zs.length ≤ maxLen := fun zs h => by have := hz1 zs h; unfold maxLen; omega
  have hq0 : ¬ (szL L0 (1048576) < 0) := hn0
  clear hn0
  have hq1 : ¬ (szL L1 (szL L0 (1048576)) < 0) := hn1
  clear hn1
  have BB : Below w.heap.size w w := Below.refl _ _
  go_enter Try.func6, Try.ntmps6
  go_wp2_with fail
  refine (szIntSS_any _ _ _ _ _ HA0 hm0 (by omega) (by omega)).mono ?_
  rintro r wz ⟨rfl, hwz⟩
  rw [hwz]
  clear hwz wz
  go_wp2_with fail
  refine (szIntSS_any _ _ _ _ _ HA1 hm1 (by omega) (by omega)).mono ?_
  rintro r wz ⟨rfl, hwz⟩
  rw [hwz]
  clear hwz wz
  go_wp2_with fail
  refine (toIntSS_any _ _ _ _ HA0 hle0 hz0).mono ?_
  rintro r w1 ⟨H0a, rfl, H0q, hB⟩
  have H0 := H0q.intss hzm0
  clear H0q
  replace HA0 := HA0.below hB
  replace HA1 := HA1.below hB
  replace BB := Below.step6 BB hB
  clear hB
  go_wp2_with fail
  refine (toIntSS_any _ _ _ _ HA1 hle1 hz1).mono ?_
  rintro r w2 ⟨H1a, rfl, H1q, hB⟩
  have H1 := H1q.intss hzm1
  clear H1q
  replace HA0 := HA0.below hB
  replace HA1 := HA1.below hB
  replace H0 := H0.below hB
  replace BB := Below.step6 BB hB
  clear hB
  go_wp2_with fail
  refine (specDom_any _ _ _ _ _ _ _ H0 H1 hm0 hm1 (Nat.le_refl _) (Nat.le_refl _)).mono ?_
  rintro r ws ⟨rfl, hws⟩
  rw [hws]
  clear hws ws
  clear H0
  clear H1
  go_wp2_with fail
  refine (toIntSS_any _ _ _ _ HA0 hle0 hz0).mono ?_
  rintro r w3 ⟨X0a, rfl, X0q, hB⟩
  have X0 := X0q.intss hzm0
  clear X0q
  replace HA0 := HA0.below hB
  replace HA1 := HA1.below hB
  replace BB := Below.step6 BB hB
  clear hB
  go_wp2_with fail
  refine (toIntSS_any _ _ _ _ HA1 hle1 hz1).mono ?_
  rintro r w4 ⟨X1a, rfl, X1q, hB⟩
  have X1 := X1q.intss hzm1
  clear X1q
  replace HA0 := HA0.below hB
  replace HA1 := HA1.below hB
  replace X0 := X0.below hB
  replace BB := Below.step6 BB hB
  clear hB
  go_wp2_with fail
  refine (implDom_any _ _ _ _ _ _ _ X0 X1 hm0 hm1).mono ?_
  rintro r w5 ⟨rfl, hB⟩
  replace HA0 := HA0.below hB
  replace HA1 := HA1.below hB
  replace X0 := X0.below hB
  replace X1 := X1.below hB
  replace BB := Below.step6 BB hB
  clear hB
  go_wp2_with fail
  refine (toIntSS_any _ _ _ _ HA0 hle0 hz0).mono ?_
  rintro r w6 ⟨Y0a, rfl, Y0q, hB⟩
  have Y0 := Y0q.intss hzm0
  clear Y0q
  replace HA0 := HA0.below hB
  replace HA1 := HA1.below hB
  replace X0 := X0.below hB
  replace X1 := X1.below hB
  replace BB := Below.step6 BB hB
  clear hB
  go_wp2_with fail
  refine (eqIntSS_same _ _ _ _ _ _ X0 Y0 hm0).mono ?_
  rintro r w7 ⟨rfl, hB⟩
  clear X0 Y0
  replace HA0 := HA0.below hB
  replace HA1 := HA1.below hB
  replace X1 := X1.below hB
  replace BB := Below.step6 BB hB
  clear hB
  go_wp2_with fail
  refine (toIntSS_any _ _ _ _ HA1 hle1 hz1).mono ?_
  rintro r w8 ⟨Y1a, rfl, Y1q, hB⟩
  have Y1 := Y1q.intss hzm1
  clear Y1q
  replace HA0 := HA0.below hB
  replace HA1 := HA1.below hB
  replace X1 := X1.below hB
  replace BB := Below.step6 BB hB
  clear hB
  go_wp2_with fail
  refine (eqIntSS_same _ _ _ _ _ _ X1 Y1 hm1).mono ?_
  rintro r w9 ⟨rfl, hB⟩
  clear X1 Y1
  replace HA0 := HA0.below hB
  replace HA1 := HA1.below hB
  replace BB := Below.step6 BB hB
  clear hB
  go_wp2
  go_ret
  exact ⟨rfl, BB⟩

end Go.Proofs.Ytifahambpgnedaa
