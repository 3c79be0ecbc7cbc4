/-
  The walk of the law FnExactRackSafe: at all lists that can be read it answers true and leaves what was there as it was.
-/
import Derived.Test.YtmpchddfijcjfaaDoorHmK
import Derived.Test.YtmpchddfijcjfaaDoorHmKI
import Derived.Test.YtmpchddfijcjfaaDoorLawGV
namespace Go.Proofs.YtmpchddfijcjfaaDoor
open Go.RowKit

set_option maxRecDepth 100000 in
set_option maxHeartbeats 4000000 in
theorem lawRackSafeW (L0 : List Int) (L1 : List (List Int)) (a0 : Option Addr) (c0 : Nat) (a1 : Option Addr) (c1 : Nat) (w : World) (HA0 : Ints w a0 L0) (hm0 : L0.length ≤ maxLen) (HA1 : Intss w a1 L1) (hm1 : L1.length ≤ maxLen) (hT : TabQ w) :
    Calls Tryd.prog 4 #[.slice a0 L0.length c0, .slice a1 L1.length c1] w fun r w' => r = .returned (.bool true) ∧ Below w.heap.size w w' := by
  have hT0 : ((rsA L0 L1) != (rsA L0 L1)) = false := by cases (rsA L0 L1) <;> rfl
  have hT1 : ((rsB L0 L1) != (rsB L0 L1)) = false := by cases (rsB L0 L1) <;> rfl
  have hu0 := hm0
  unfold maxLen at hu0
  have hu1 := hm1
  unfold maxLen at hu1
  by_cases hbig0 : (1048576 : Int) < L0.length
  · go_enter Tryd.func4, Tryd.ntmps4
    go_wp2
    go_ret
    exact ⟨rfl, Below.refl _ _⟩
  have hle0 : L0.length ≤ 1048576 := by omega
  have hr1 := szL_range L1 (left := 1048576) (by omega)
  by_cases hn1 : szL L1 (1048576) < 0
  · go_enter Tryd.func4, Tryd.ntmps4
    go_wp2_with fail
    refine (szIntSS_any _ _ _ _ _ HA1 hm1 (by omega) (by omega)).mono ?_
    rintro r wz ⟨rfl, hwz⟩
    rw [hwz]
    clear hwz wz
    go_wp2
    go_ret
    exact ⟨rfl, Below.refl _ _⟩
  have hb1 := (szL_bound (L := L1) (left := 1048576) (by omega)).1
  have hle1 : L1.length ≤ 1048576 := by omega
  have hz1 : ∀ zs ∈ L1, zs.length ≤ 1048576 := fun zs h => by obtain ⟨q, hq⟩ := List.getElem?_of_mem h; have := totI_mem hq; omega
  have hzm1 : ∀ zs ∈ L1, zs.length ≤ maxLen := fun zs h => by have := hz1 zs h; unfold maxLen; omega
  have hq1 : ¬ (szL L1 (1048576) < 0) := hn1
  clear hn1
  have BB : Below w.heap.size w w := Below.refl _ _
  go_enter Tryd.func4, Tryd.ntmps4
  go_wp2_with fail
  refine (szIntSS_any _ _ _ _ _ HA1 hm1 (by omega) (by omega)).mono ?_
  rintro r wz ⟨rfl, hwz⟩
  rw [hwz]
  clear hwz wz
  go_wp2_with fail
  refine (toIntS_any _ _ _ _ HA0 hle0).mono ?_
  rintro r w1 ⟨H0a, rfl, H0, -, hB⟩
  replace HA0 := HA0.below hB
  replace HA1 := HA1.below hB
  replace BB := Below.step6 BB hB
  clear hB
  go_wp2_with fail
  refine (toIntSS_any _ _ _ _ HA1 hle1 hz1).mono ?_
  rintro r w2 ⟨H1a, rfl, H1q, hB⟩
  have H1 := H1q.intss hzm1
  clear H1q
  replace HA0 := HA0.below hB
  replace HA1 := HA1.below hB
  replace H0 := H0.below hB
  replace BB := Below.step6 BB hB
  clear hB
  go_wp2_with fail
  refine (specRackSafe_any _ _ _ _ _ _ _ H0 H1 hm0 hm1).mono ?_
  rintro r ws ⟨rfl, hws⟩
  replace HA0 := HA0.below hws
  replace HA1 := HA1.below hws
  replace BB := Below.step6 BB hws
  clear hws
  clear H0
  clear H1
  go_wp2_with fail
  refine (toIntS_any _ _ _ _ HA0 hle0).mono ?_
  rintro r w3 ⟨X0a, rfl, X0, -, hB⟩
  replace HA0 := HA0.below hB
  replace HA1 := HA1.below hB
  replace BB := Below.step6 BB hB
  clear hB
  go_wp2_with fail
  refine (toIntSS_any _ _ _ _ HA1 hle1 hz1).mono ?_
  rintro r w4 ⟨X1a, rfl, X1q, hB⟩
  have X1 := X1q.intss hzm1
  clear X1q
  replace HA0 := HA0.below hB
  replace HA1 := HA1.below hB
  replace X0 := X0.below hB
  replace BB := Below.step6 BB hB
  clear hB
  go_wp2_with fail
  refine (implRackSafe_any _ _ _ _ _ _ _ X0 X1 hm0 hm1 (hT.belowRk BB)).mono ?_
  rintro r w5 ⟨rfl, hB⟩
  replace HA0 := HA0.below hB
  replace HA1 := HA1.below hB
  replace X0 := X0.below hB
  replace X1 := X1.below hB
  replace BB := Below.step6 BB hB
  clear hB
  go_wp2_with fail
  refine (toIntS_any _ _ _ _ HA0 hle0).mono ?_
  rintro r w6 ⟨Y0a, rfl, Y0, -, hB⟩
  replace HA0 := HA0.below hB
  replace HA1 := HA1.below hB
  replace X0 := X0.below hB
  replace X1 := X1.below hB
  replace BB := Below.step6 BB hB
  clear hB
  go_wp2_with fail
  refine (eqIntS_same _ _ _ _ _ _ X0 Y0 hm0).mono ?_
  rintro r w7 ⟨rfl, hB⟩
  clear X0 Y0
  replace HA0 := HA0.below hB
  replace HA1 := HA1.below hB
  replace X1 := X1.below hB
  replace BB := Below.step6 BB hB
  clear hB
  go_wp2_with fail
  refine (toIntSS_any _ _ _ _ HA1 hle1 hz1).mono ?_
  rintro r w8 ⟨Y1a, rfl, Y1q, hB⟩
  have Y1 := Y1q.intss hzm1
  clear Y1q
  replace HA0 := HA0.below hB
  replace HA1 := HA1.below hB
  replace X1 := X1.below hB
  replace BB := Below.step6 BB hB
  clear hB
  go_wp2_with fail
  refine (eqIntSS_same _ _ _ _ _ _ X1 Y1 hm1).mono ?_
  rintro r w9 ⟨rfl, hB⟩
  clear X1 Y1
  replace HA0 := HA0.below hB
  replace HA1 := HA1.below hB
  replace BB := Below.step6 BB hB
  clear hB
  go_wp2
  go_ret
  exact ⟨rfl, BB⟩

theorem lawRackSafe_any (L0 : List Int) (a0 : Option Addr) (c0 : Nat) (L1 : List (List Int)) (a1 : Option Addr) (c1 : Nat) (w : World) (HA0 : Ints w a0 L0) (hm0 : L0.length ≤ maxLen) (HA1 : Intss w a1 L1) (hm1 : L1.length ≤ maxLen) (hT : TabQ w) :
    Calls Tryd.prog 4 #[.slice a0 L0.length c0, .slice a1 L1.length c1] w fun r w' => r = .returned (.bool true) ∧ Below w.heap.size w w' :=
  lawRackSafeW L0 L1 a0 c0 a1 c1 w HA0 hm0 HA1 hm1 hT

end Go.Proofs.YtmpchddfijcjfaaDoor
