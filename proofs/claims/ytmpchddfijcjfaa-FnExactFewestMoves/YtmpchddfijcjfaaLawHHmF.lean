/-
  The walk of the law FnExactFewestMoves, the contracts of spec.FewestMoves and impl.FewestMoves given: at all that can be read it answers true and leaves what was there as it was.
-/
import Derived.Test.YtmpchddfijcjfaaInts
import Derived.Test.YtmpchddfijcjfaaLawGE
namespace Go.Proofs.Ytmpchddfijcjfaa
open Go.RowKit

set_option maxRecDepth 100000 in
set_option maxHeartbeats 4000000 in
theorem lawFewestH (z0 : Int) (zs1 : List Int) (n : Int) (ok : Bool) (a1 : Option Addr) (c1 : Nat) (w : World) (HA1 : Ints w a1 zs1) (hm1 : zs1.length ≤ maxLen)
    (HS0 : ∀ (u : World) (x1 : Option Addr), Ints u x1 zs1 → Calls Try.prog 24 #[.int .i64 z0, .slice x1 zs1.length zs1.length] u fun e u' => e = .returned (.tuple #[.int .i64 n, .bool ok]) ∧ Below u.heap.size u u')
    (HI0 : ∀ (u : World) (x1 : Option Addr), Ints u x1 zs1 → Calls Try.prog 25 #[.int .i64 z0, .slice x1 zs1.length zs1.length] u fun e u' => e = .returned (.tuple #[.int .i64 n, .bool ok]) ∧ Below u.heap.size u u') :
    Calls Try.prog 8 #[.int .i64 z0, .slice a1 zs1.length c1] w fun r w' => r = .returned (.bool true) ∧ Below w.heap.size w w' := by
  have hT : (ok != ok) = false := by cases ok <;> rfl
  have hT2 : (n != n) = false := by simp
  have HS : Hid (∀ (u : World) (x1 : Option Addr), Ints u x1 zs1 → Calls Try.prog 24 #[.int .i64 z0, .slice x1 zs1.length zs1.length] u fun e u' => e = .returned (.tuple #[.int .i64 n, .bool ok]) ∧ Below u.heap.size u u') := HS0
  have HI : Hid (∀ (u : World) (x1 : Option Addr), Ints u x1 zs1 → Calls Try.prog 25 #[.int .i64 z0, .slice x1 zs1.length zs1.length] u fun e u' => e = .returned (.tuple #[.int .i64 n, .bool ok]) ∧ Below u.heap.size u u') := HI0
  clear HS0 HI0
  have hml1 := hm1
  unfold maxLen at hml1
  by_cases hbig1 : (1048576 : Int) < zs1.length
  · go_enter Try.func8, Try.ntmps8
    go_wp2
    go_ret
    exact ⟨rfl, Below.refl _ _⟩
  have hle1 : zs1.length ≤ 1048576 := by omega
  have BB : Below w.heap.size w w := Below.refl _ _
  go_enter Try.func8, Try.ntmps8
  go_wp2_with fail
  refine (toIntS_any _ _ _ _ HA1 hle1).mono ?_
  rintro r w1 ⟨H11a, rfl, H11, -, hB⟩
  replace HA1 := HA1.below hB
  replace BB := Below.stp BB hB
  clear hB
  go_wp2_with fail
  refine (HS.out _ _ H11).mono ?_
  rintro r w2 ⟨rfl, hB⟩
  replace HA1 := HA1.below hB
  replace H11 := H11.below hB
  replace BB := Below.stp BB hB
  clear hB
  clear HS H11
  go_wp2_with fail
  refine (toIntS_any _ _ _ _ HA1 hle1).mono ?_
  rintro r w3 ⟨HX1a, rfl, HX1, -, hB⟩
  replace HA1 := HA1.below hB
  replace BB := Below.stp BB hB
  clear hB
  go_wp2_with fail
  refine (HI.out _ _ HX1).mono ?_
  rintro r w4 ⟨rfl, hB⟩
  replace HA1 := HA1.below hB
  replace HX1 := HX1.below hB
  replace BB := Below.stp BB hB
  clear hB
  go_wp2_with fail
  refine (toIntS_any _ _ _ _ HA1 hle1).mono ?_
  rintro r w5 ⟨H7a, rfl, H7, -, hB⟩
  replace HA1 := HA1.below hB
  replace HX1 := HX1.below hB
  replace BB := Below.stp BB hB
  clear hB
  go_wp2_with fail
  refine (eqIntS_same _ _ _ _ zs1 _ HX1 H7 hm1).mono ?_
  rintro r w6 ⟨rfl, hB⟩
  replace HA1 := HA1.below hB
  replace HX1 := HX1.below hB
  replace H7 := H7.below hB
  replace BB := Below.stp BB hB
  clear hB
  clear H7
  go_wp2
  go_ret
  exact ⟨rfl, BB⟩

end Go.Proofs.Ytmpchddfijcjfaa
