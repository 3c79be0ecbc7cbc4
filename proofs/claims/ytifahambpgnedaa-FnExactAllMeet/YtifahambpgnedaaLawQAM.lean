/-
  The walk of the law FnExactAllMeet: at all lists that can be read it answers true and leaves what was there as it was.
-/
import Derived.Test.YtifahambpgnedaaQTop
import Derived.Test.YtifahambpgnedaaLawGV
namespace Go.Proofs.Ytifahambpgnedaa
open Go.RowKit

set_option maxRecDepth 100000 in
set_option maxHeartbeats 4000000 in
theorem lawAllMeet_any (L0 : List (List Int)) (a0 : Option Addr) (c0 : Nat) (w : World) (HA0 : Intss w a0 L0) (hm0 : L0.length ≤ maxLen) :
    Calls Try.prog 4 #[.slice a0 L0.length c0] w fun r w' => r = .returned (.bool true) ∧ Below w.heap.size w w' := by
  have hT0 : ((goodL L0 7 && allL L0) != (goodL L0 7 && allL L0)) = false := by cases (goodL L0 7 && allL L0) <;> rfl
  have hT1 : ((goodL L0 7) != (goodL L0 7)) = false := by cases (goodL L0 7) <;> rfl
  have hu0 := hm0
  unfold maxLen at hu0
  have hr0 := szL_range L0 (left := 1048576) (by omega)
  by_cases hn0 : szL L0 (1048576) < 0
  · go_enter Try.func4, Try.ntmps4
    go_wp2_with fail
    refine (szIntSS_any _ _ _ _ _ HA0 hm0 (by omega) (by omega)).mono ?_
    rintro r wz ⟨rfl, hwz⟩
    rw [hwz]
    clear hwz wz
    go_wp2
    go_ret
    exact ⟨rfl, Below.refl _ _⟩
  have hb0 := szL_bound (L := L0) (left := 1048576) (by omega)
  have hle0 : L0.length ≤ 1048576 := by omega
  have hz0 : ∀ zs ∈ L0, zs.length ≤ 1048576 := fun zs h => by obtain ⟨q, hq⟩ := List.getElem?_of_mem h; have := totI_mem hq; omega
  have hzm0 : ∀ zs ∈ L0, zs.length ≤ maxLen := fun zs h => by have := hz0 zs h; unfold maxLen; omega
  have hq0 : ¬ (szL L0 (1048576) < 0) := hn0
  clear hn0
  have BB : Below w.heap.size w w := Below.refl _ _
  go_enter Try.func4, Try.ntmps4
  go_wp2_with fail
  refine (szIntSS_any _ _ _ _ _ HA0 hm0 (by omega) (by omega)).mono ?_
  rintro r wz ⟨rfl, hwz⟩
  rw [hwz]
  clear hwz wz
  go_wp2_with fail
  refine (toIntSS_any _ _ _ _ HA0 hle0 hz0).mono ?_
  rintro r w1 ⟨H0a, rfl, H0q, hB⟩
  have H0 := H0q.intss hzm0
  clear H0q
  replace HA0 := HA0.below hB
  replace BB := Below.step6 BB hB
  clear hB
  go_wp2_with fail
  refine (specAM_any _ _ _ _ H0 hm0 (Nat.le_refl _)).mono ?_
  rintro r ws ⟨rfl, hws⟩
  rw [hws]
  clear hws ws
  clear H0
  go_wp2_with fail
  refine (toIntSS_any _ _ _ _ HA0 hle0 hz0).mono ?_
  rintro r w2 ⟨X0a, rfl, X0q, hB⟩
  have X0 := X0q.intss hzm0
  clear X0q
  replace HA0 := HA0.below hB
  replace BB := Below.step6 BB hB
  clear hB
  go_wp2_with fail
  refine (implAM_any _ _ _ _ X0 hm0).mono ?_
  rintro r w3 ⟨rfl, hB⟩
  replace HA0 := HA0.below hB
  replace X0 := X0.below hB
  replace BB := Below.step6 BB hB
  clear hB
  go_wp2_with fail
  refine (toIntSS_any _ _ _ _ HA0 hle0 hz0).mono ?_
  rintro r w4 ⟨Y0a, rfl, Y0q, hB⟩
  have Y0 := Y0q.intss hzm0
  clear Y0q
  replace HA0 := HA0.below hB
  replace X0 := X0.below hB
  replace BB := Below.step6 BB hB
  clear hB
  go_wp2_with fail
  refine (eqIntSS_same _ _ _ _ _ _ X0 Y0 hm0).mono ?_
  rintro r w5 ⟨rfl, hB⟩
  clear X0 Y0
  replace HA0 := HA0.below hB
  replace BB := Below.step6 BB hB
  clear hB
  go_wp2
  go_ret
  exact ⟨rfl, BB⟩

end Go.Proofs.Ytifahambpgnedaa
