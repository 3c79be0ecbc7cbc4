/-
  The walk of the law FnExactPartAt: at every two lists of numbers that can be read it answers true and leaves what was there as it was.
-/
import Derived.Test.YtlhjnfmnkalcbaaLawGE
import Derived.Test.YtlhjnfmnkalcbaaEpPartI
namespace Go.Proofs.Ytlhjnfmnkalcbaa
open Go.RowKit

set_option maxHeartbeats 2000000 in
theorem lawPart_any (zs0 zs1 : List Int) (a0 a1 : Option Addr) (c0 c1 : Nat) (w : World) (HA : Ints w a0 zs0) (HB : Ints w a1 zs1) (hm0 : zs0.length ≤ maxLen) (hm1 : zs1.length ≤ maxLen) :
    Calls Try.prog 7 #[.slice a0 zs0.length c0, .slice a1 zs1.length c1] w fun r w' => r = .returned (.bool true) ∧ Below w.heap.size w w' := by
  have hl0 := hm0
  have hl1 := hm1
  unfold maxLen at hl0 hl1
  by_cases hbig0 : (1048576 : Int) < zs0.length
  · go_enter Try.func7, Try.ntmps7
    go_wp2
    go_ret
    exact ⟨rfl, Below.refl _ _⟩
  by_cases hbig1 : (1048576 : Int) < zs1.length
  · go_enter Try.func7, Try.ntmps7
    go_wp2
    go_ret
    exact ⟨rfl, Below.refl _ _⟩
  have hle0 : zs0.length ≤ 1048576 := by omega
  have hle1 : zs1.length ≤ 1048576 := by omega
  obtain ⟨⟨x, ok⟩, hxy⟩ : ∃ r, paR zs0 zs1 = r := ⟨_, rfl⟩
  have HXY : Hid (paR zs0 zs1 = (x, ok)) := hxy
  clear hxy
  have hT : (ok != ok) = false := by cases ok <;> rfl
  have BB : Below w.heap.size w w := Below.refl _ _
  go_enter Try.func7, Try.ntmps7
  go_wp2_with fail
  refine (toIntS_lie _ _ _ _ HA hle0).mono ?_
  rintro r uH1 ⟨xH1, rfl, H1, -, hB⟩
  replace HA := HA.below hB
  replace HB := HB.below hB
  replace BB := Below.stp BB hB
  clear hB
  go_wp2_with fail
  refine (toIntS_lie _ _ _ _ HB hle1).mono ?_
  rintro r uH2 ⟨xH2, rfl, H2, -, hB⟩
  replace HA := HA.below hB
  replace HB := HB.below hB
  replace H1 := H1.below hB
  replace BB := Below.stp BB hB
  clear hB
  go_wp2_with fail
  refine (specPA_any _ _ _ _ _ H1 H2 hm0 hm1).mono ?_
  rintro r uH1r ⟨hr, hB⟩
  rw [HXY.out] at hr; simp only [paV] at hr; subst hr
  replace HA := HA.below hB
  replace HB := HB.below hB
  replace BB := Below.stp BB hB
  clear hB
  clear H1 H2
  go_wp2_with fail
  refine (toIntS_lie _ _ _ _ HA hle0).mono ?_
  rintro r uHX ⟨xHX, rfl, HX, -, hB⟩
  replace HA := HA.below hB
  replace HB := HB.below hB
  replace BB := Below.stp BB hB
  clear hB
  go_wp2_with fail
  refine (toIntS_lie _ _ _ _ HB hle1).mono ?_
  rintro r uHY ⟨xHY, rfl, HY, -, hB⟩
  replace HA := HA.below hB
  replace HB := HB.below hB
  replace HX := HX.below hB
  replace BB := Below.stp BB hB
  clear hB
  go_wp2_with fail
  refine (implPA_any _ _ _ _ _ HX HY hm0 hm1).mono ?_
  rintro r uHXr ⟨hr, hB⟩
  rw [HXY.out] at hr; simp only [paV] at hr; subst hr
  replace HA := HA.below hB
  replace HB := HB.below hB
  replace HX := HX.below hB
  replace HY := HY.below hB
  replace BB := Below.stp BB hB
  clear hB
  go_wp2_with fail
  refine (toIntS_lie _ _ _ _ HA hle0).mono ?_
  rintro r uH5 ⟨xH5, rfl, H5, -, hB⟩
  replace HA := HA.below hB
  replace HB := HB.below hB
  replace HX := HX.below hB
  replace HY := HY.below hB
  replace BB := Below.stp BB hB
  clear hB
  go_wp2_with fail
  refine (eqIntS_same _ _ _ _ _ _ HX H5 hm0).mono ?_
  rintro r uH5e ⟨rfl, hB⟩
  replace HA := HA.below hB
  replace HB := HB.below hB
  replace HY := HY.below hB
  replace BB := Below.stp BB hB
  clear hB H5
  go_wp2_with fail
  refine (toIntS_lie _ _ _ _ HB hle1).mono ?_
  rintro r uH6 ⟨xH6, rfl, H6, -, hB⟩
  replace HY := HY.below hB
  replace BB := Below.stp BB hB
  clear hB
  go_wp2_with fail
  refine (eqIntS_same _ _ _ _ _ _ HY H6 hm1).mono ?_
  rintro r uH6e ⟨rfl, hB⟩
  replace BB := Below.stp BB hB
  clear hB H6
  go_wp2
  go_ret
  exact ⟨rfl, BB⟩

end Go.Proofs.Ytlhjnfmnkalcbaa
