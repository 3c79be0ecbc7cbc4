/-
  The walk of the law FnExactRacksOf, the contracts of spec.RacksOf and impl.RacksOf given: at all that can be read it answers true and leaves what was there as it was. Made by mklawrk.py.
-/
import Derived.Test.YtmpchddfijcjfaaDoorQLawI
import Derived.Test.YtmpchddfijcjfaaDoorGnM
import Derived.Deep.RegionHeld3
import Derived.WalkMore
namespace Go.Proofs.YtmpchddfijcjfaaDoor
open Go.RowKit

theorem stRk {W a b : World} (h : Below W.heap.size W a) (k : Below a.heap.size a b) : Below W.heap.size W b := h.trans (k.mono h.size)

set_option maxRecDepth 100000 in
set_option maxHeartbeats 8000000 in
theorem lawRkH (zs : List Int) (z1 : Int) (ans : List (List Int)) (ok : Bool) (a : Option Addr) (c : Nat) (w : World) (HA : Ints w a zs) (hm : zs.length ≤ maxLen) (hL : ans.length ≤ 128) (h7 : ∀ ys ∈ ans, ys.length ≤ 7)
    (HS0 : ∀ (u : World) (x : Option Addr), Ints u x zs → Calls Tryd.prog 5 #[.slice x zs.length zs.length, .int .i64 z1] u fun r u' => LAns u ans ok r u')
    (HI0 : ∀ (u : World) (x : Option Addr), Ints u x zs → Below w.heap.size w u → Calls Tryd.prog 7 #[.slice x zs.length zs.length, .int .i64 z1] u fun r u' => LAns u ans ok r u') :
    Calls Tryd.prog 3 #[.slice a zs.length c, .int .i64 z1] w fun r w' => r = .returned (.bool true) ∧ Below w.heap.size w w' := by
  have hT : (ok != ok) = false := by cases ok <;> rfl
  have hmL : ans.length ≤ maxLen := by unfold maxLen; omega
  have hm7 : ∀ ys ∈ ans, ys.length ≤ maxLen := fun ys h => by have := h7 ys h; unfold maxLen; omega
  have HS : Hid (∀ (u : World) (x : Option Addr), Ints u x zs → Calls Tryd.prog 5 #[.slice x zs.length zs.length, .int .i64 z1] u fun r u' => LAns u ans ok r u') := HS0
  have HI : Hid (∀ (u : World) (x : Option Addr), Ints u x zs → Below w.heap.size w u → Calls Tryd.prog 7 #[.slice x zs.length zs.length, .int .i64 z1] u fun r u' => LAns u ans ok r u') := HI0
  clear HS0 HI0
  have lA := HA.lt
  have hml := hm
  unfold maxLen at hml
  by_cases hbig : (1048576 : Int) < zs.length
  · go_enter Tryd.func3, Tryd.ntmps3
    go_wp2
    go_ret
    exact ⟨rfl, Below.refl _ _⟩
  have hle : zs.length ≤ 1048576 := by omega
  have BB : Below w.heap.size w w := Below.refl _ _
  go_enter Tryd.func3, Tryd.ntmps3
  go_wp2_with fail
  refine (toIntS_any _ _ _ _ HA hle).mono ?_
  rintro r w1 ⟨H1a, rfl, H1, -, hB⟩
  replace HA := HA.below hB
  replace BB := stRk BB hB
  have sw1 := hB.size
  clear hB
  go_wp2_with fail
  refine (HS.out _ _ H1).mono ?_
  rintro r w2 ⟨Wa, Wc, Wq, We, rfl, WO, hB⟩
  replace HA := HA.below hB
  replace BB := stRk BB hB
  have sw2 := hB.size
  clear hB
  clear HS H1
  have WL : ∀ b, InO Wa Wq b → b < w2.heap.size := fun b h => (WO.lt h).2
  go_wp2_with fail
  refine (toIntS_any _ _ _ _ HA hle).mono ?_
  rintro r w3 ⟨Xa, rfl, X, RX, hB⟩
  replace HA := HA.below hB
  replace WO := WO.below hB
  replace BB := stRk BB hB
  have sw3 := hB.size
  have XL : ∀ b, InI Xa zs.length b → w2.heap.size ≤ b ∧ b < w3.heap.size := fun b h => RX.lt h
  clear hB
  go_wp2_with fail
  refine (HI.out _ _ X BB).mono ?_
  rintro r w4 ⟨Ga, Gc, Gq, Ge, rfl, GO, hB⟩
  replace HA := HA.below hB
  replace WO := WO.below hB
  replace X := X.below hB
  replace RX := RX.below hB
  replace BB := stRk BB hB
  have sw4 := hB.size
  have GL : ∀ b, InO Ga Gq b → w3.heap.size ≤ b ∧ b < w4.heap.size := fun b h => GO.lt h
  clear hB
  obtain ⟨gl, gt⟩ := qTo_small Ge h7 hL
  go_wp2_with fail
  refine (eqOut ans _ _ _ _ _ _ _ _ _ Ge We GO WO hmL hm7).mono ?_
  rintro r w5 ⟨rfl, hB⟩
  replace HA := HA.below hB
  replace WO := WO.below hB
  replace X := X.below hB
  replace RX := RX.below hB
  replace GO := GO.below hB
  replace BB := stRk BB hB
  have sw5 := hB.size
  clear hB
  go_wp2_with fail
  refine (toIntS_any _ _ _ _ HA hle).mono ?_
  rintro r w6 ⟨H7a, rfl, H7, -, hB⟩
  replace HA := HA.below hB
  replace WO := WO.below hB
  replace X := X.below hB
  replace RX := RX.below hB
  replace GO := GO.below hB
  replace BB := stRk BB hB
  have sw6 := hB.size
  clear hB
  go_wp2_with fail
  refine (eqIntS_same _ _ _ _ zs _ X H7 hm).mono ?_
  rintro r w7 ⟨rfl, hB⟩
  replace HA := HA.below hB
  replace WO := WO.below hB
  replace RX := RX.below hB
  replace GO := GO.below hB
  replace BB := stRk BB hB
  have sw7 := hB.size
  clear hB
  clear H7 X
  go_wp2_with fail
  refine (markIntS_any _ _ _ w2.heap.size 1 _ RX (by omega)).mono ?_
  rintro r w8 ⟨rfl, -, -, hB, hO⟩
  replace HA := HA.of_block (fun b h => hO b (HA.lt b h) (fun h' => by have := lA b h; have := XL b h'; omega))
  replace WO := WO.of_block (fun b h => hO b (WO.lt h).2 (fun h' => by have := WL b h; have := XL b h'; omega))
  replace GO := GO.of_block (fun b h => hO b (GO.lt h).2 (fun h' => by have := GL b h; have := XL b h'; omega))
  replace BB := BB.trans (hB.mono (by omega))
  have sw8 := hB.size
  clear hB hO RX
  have hk : ¬ (((1 + zs.length : Nat) : Int) < 0) := by omega
  go_wp2_with fail
  refine (eqOut ans _ _ _ _ _ _ _ _ _ Ge We GO WO hmL hm7).mono ?_
  rintro r w9 ⟨rfl, hB⟩
  replace HA := HA.below hB
  replace WO := WO.below hB
  replace GO := GO.below hB
  replace BB := stRk BB hB
  have sw9 := hB.size
  clear hB
  go_wp2_with fail
  refine (mark_out _ _ _ 1 Gq _ GO (by omega) (by omega)).mono ?_
  rintro r w10 ⟨rfl, MG, hB, hO⟩
  replace HA := HA.of_block (fun b h => hO b (HA.lt b h) (fun h' => by have := lA b h; have := GL b (.inl h'); omega))
  replace WO := WO.of_block (fun b h => hO b (WO.lt h).2 (fun h' => by have := WL b h; have := GL b (.inl h'); omega))
  replace BB := BB.trans (hB.mono (by omega))
  have sw10 := hB.size
  clear hB hO GO
  have hq : ¬ (((1 + qTo Gq Gq.length : Nat) : Int) < 0) := by omega
  have hqq : ((((1 + qTo Gq Gq.length : Nat) : Int)) != (((1 + qTo Gq Gq.length : Nat) : Int))) = false := by simp
  go_wp2_with fail
  refine (held_out _ _ 1 Gq _ MG (by omega) (by omega)).mono ?_
  rintro r wh ⟨rfl, hwh⟩
  rw [hwh]
  clear hwh wh
  go_wp2_with fail
  refine (toIntS_any _ _ _ _ HA hle).mono ?_
  rintro r w11 ⟨H9a, rfl, H9, -, hB⟩
  replace HA := HA.below hB
  replace WO := WO.below hB
  replace MG := MG.below hB
  replace BB := stRk BB hB
  have sw11 := hB.size
  clear hB
  go_wp2_with fail
  refine (HI.out _ _ H9 BB).mono ?_
  rintro r w12 ⟨Ka, Kc, Kq, Ke, rfl, KO, hB⟩
  replace WO := WO.below hB
  replace MG := MG.below hB
  replace BB := stRk BB hB
  have sw12 := hB.size
  clear hB
  go_wp2_with fail
  refine (eqOut ans _ _ _ _ _ _ _ _ _ Ke We KO WO hmL hm7).mono ?_
  rintro r w13 ⟨rfl, hB⟩
  replace MG := MG.below hB
  replace BB := stRk BB hB
  have sw13 := hB.size
  clear hB
  go_wp2_with fail
  refine (held_out _ _ 1 Gq _ MG (by omega) (by omega)).mono ?_
  rintro r wh ⟨rfl, hwh⟩
  rw [hwh]
  clear hwh wh
  go_wp2
  go_ret
  exact ⟨rfl, BB⟩

end Go.Proofs.YtmpchddfijcjfaaDoor
