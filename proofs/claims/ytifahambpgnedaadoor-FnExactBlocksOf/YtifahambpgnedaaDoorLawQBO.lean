/-
  The walk of the law FnExactBlocksOf: at all that can be read it answers true and leaves what was there as it was, where the table of math/bits is laid.
-/
import Derived.Test.YtifahambpgnedaaDoorQBO
import Derived.Test.YtifahambpgnedaaDoorQLaw
import Derived.Deep.RegionHeld3
namespace Go.Proofs.YtifahambpgnedaaDoor
open Go.RowKit

set_option maxRecDepth 100000 in
set_option maxHeartbeats 8000000 in
theorem lawBlocksOf_any (z0 : Int) (L1 : List (List Int)) (a1 : Option Addr) (c1 : Nat) (w : World) (HA : Intss w a1 L1) (hm1 : L1.length ≤ maxLen) (HT : TabQ w) :
    Calls Tryd.prog 5 #[.int .i64 z0, .slice a1 L1.length c1] w fun r w' => r = .returned (.bool true) ∧ Below w.heap.size w w' := by
  obtain ⟨hL, h7⟩ := boL_small z0 L1
  generalize hans : boL z0 L1 = ans at hL h7
  have HANS : Hid (boL z0 L1 = ans) := hans
  generalize hok : boOk z0 L1 = ok
  have HOK : Hid (boOk z0 L1 = ok) := hok
  clear hans hok
  have hT : (ok != ok) = false := by cases ok <;> rfl
  have hmL : ans.length ≤ maxLen := by unfold maxLen; omega
  have hm7 : ∀ zs ∈ ans, zs.length ≤ maxLen := fun zs h => by have := h7 zs h; unfold maxLen; omega
  have BB : Below w.heap.size w w := Below.refl _ _
  have hu1 := hm1
  unfold maxLen at hu1
  have hr1 := szL_range L1 (left := 1048576) (by omega)
  by_cases hn1 : szL L1 1048576 < 0
  · go_enter Tryd.func5, Tryd.ntmps5
    go_wp2_with fail
    refine (szIntSS_any _ _ _ _ _ HA hm1 (by omega) (by omega)).mono ?_
    rintro r wz ⟨rfl, hwz⟩
    rw [hwz]
    clear hwz wz
    go_wp2
    go_ret
    exact ⟨rfl, Below.refl _ _⟩
  have hb1 := (szL_bound (L := L1) (left := 1048576) (by omega)).1
  have hle : L1.length ≤ 1048576 := by omega
  have hz : ∀ zs ∈ L1, zs.length ≤ 1048576 := fun zs h => by obtain ⟨q, hq⟩ := List.getElem?_of_mem h; have := totI_mem hq; omega
  have hzm : ∀ zs ∈ L1, zs.length ≤ maxLen := fun zs h => by have := hz zs h; unfold maxLen; omega
  have hq1 : ¬ (szL L1 1048576 < 0) := hn1
  clear hn1
  have HTb := HT
  have HAb := HA
  go_enter Tryd.func5, Tryd.ntmps5
  go_wp2_with fail
  refine (szIntSS_any _ _ _ _ _ HA hm1 (by omega) (by omega)).mono ?_
  rintro r wz ⟨rfl, hwz⟩
  rw [hwz]
  clear hwz wz
  go_wp2_with fail
  refine (toIntSS_out _ _ _ _ HA hle hz).mono ?_
  rintro r s2 ⟨H1a, H1q, H1e, rfl, H1O, hB⟩
  replace HA := HA.below hB
  replace HT := HT.bel hB
  replace BB := BB.trans (hB.mono BB.size)
  clear hB
  have H1l : H1q.length = L1.length := by rw [← H1e]; simp
  have H1 : Intss s2 H1a L1 := by have h := H1O.intss (by rw [H1e]; exact hzm); rwa [H1e] at h
  rw [H1l]
  go_wp2_with fail
  refine (specBO_any _ _ _ _ _ H1 hm1).mono ?_
  rw [HANS.out, HOK.out]
  rintro r s3 ⟨Wa, Wc, Wq, We, rfl, WO, hB⟩
  replace HA := HA.below hB
  replace HT := HT.bel hB
  replace BB := BB.trans (hB.mono BB.size)
  clear hB
  clear H1 H1O H1e H1l
  have WS : Below s3.heap.size s3 s3 := Below.refl _ _
  have WL : ∀ b, InO Wa Wq b → b < s3.heap.size := fun b h => (WO.lt h).2
  have WOs := WO
  have hsB := BB.size
  have hsW : s3.heap.size ≤ s3.heap.size := Nat.le_refl _
  go_wp2_with fail
  refine (toIntSS_out _ _ _ _ HA hle hz).mono ?_
  rintro r s4 ⟨Xa, Xq, Xe, rfl, XO, hB⟩
  replace HA := HA.below hB
  replace WO := WO.below hB
  replace HT := HT.bel hB
  replace BB := BB.trans (hB.mono BB.size)
  replace WS := WS.trans (hB.mono WS.size)
  have hsX := WS.size
  clear hB
  have Xl : Xq.length = L1.length := by rw [← Xe]; simp
  have X : Intss s4 Xa L1 := by have h := XO.intss (by rw [Xe]; exact hzm); rwa [Xe] at h
  have XL : ∀ b, InO Xa Xq b → s3.heap.size ≤ b ∧ b < s4.heap.size := fun b h => XO.lt h
  rw [Xl]
  go_wp2_with fail
  refine (implBO_any _ _ _ _ _ X hm1 HT).mono ?_
  rw [HANS.out, HOK.out]
  rintro r s5 ⟨Ga, Gc, Gq, Ge, rfl, GO, hB⟩
  have hsG := hB.size
  replace HA := HA.below hB
  replace WO := WO.below hB
  replace X := X.below hB
  replace XO := XO.below hB
  replace HT := HT.bel hB
  replace BB := BB.trans (hB.mono BB.size)
  replace WS := WS.trans (hB.mono WS.size)
  clear hB
  replace hsW : s3.heap.size ≤ s4.heap.size := hsX
  have GL : ∀ b, InO Ga Gq b → s4.heap.size ≤ b ∧ b < s5.heap.size := fun b h => GO.lt h
  obtain ⟨gl, gt⟩ := qTo_small Ge h7 hL
  go_wp2_with fail
  refine (eqOut ans _ _ _ _ _ _ _ _ _ Ge We GO WO hmL hm7).mono ?_
  rintro r s6 ⟨rfl, hB⟩
  replace HA := HA.below hB
  replace WO := WO.below hB
  replace X := X.below hB
  replace XO := XO.below hB
  replace GO := GO.below hB
  replace HT := HT.bel hB
  replace BB := BB.trans (hB.mono BB.size)
  replace WS := WS.trans (hB.mono WS.size)
  clear hB
  go_wp2_with fail
  refine (toIntSS_out _ _ _ _ HA hle hz).mono ?_
  rintro r s7 ⟨Ya, Yq, Ye, rfl, YO, hB⟩
  replace HA := HA.below hB
  replace WO := WO.below hB
  replace X := X.below hB
  replace XO := XO.below hB
  replace GO := GO.below hB
  replace HT := HT.bel hB
  replace BB := BB.trans (hB.mono BB.size)
  replace WS := WS.trans (hB.mono WS.size)
  clear hB
  have Yl : Yq.length = L1.length := by rw [← Ye]; simp
  have Y : Intss s7 Ya L1 := by have h := YO.intss (by rw [Ye]; exact hzm); rwa [Ye] at h
  rw [Yl]
  go_wp2_with fail
  refine (eqIntSS_same _ _ _ _ L1 _ X Y hm1).mono ?_
  rintro r wb ⟨rfl, hB⟩
  replace HA := HA.below hB
  replace WO := WO.below hB
  replace X := X.below hB
  replace XO := XO.below hB
  replace GO := GO.below hB
  replace HT := HT.bel hB
  replace BB := BB.trans (hB.mono BB.size)
  replace WS := WS.trans (hB.mono WS.size)
  clear hB Y YO
  have hxq : Xq.length ≤ 1048576 := by omega
  have hxt : 1 + qTo Xq Xq.length ≤ 1000000000 := by have := qTo_tot Xe; omega
  go_wp2_with fail
  refine (mark_outN _ _ _ 1 _ Xq _ Xl XO hxq hxt).mono ?_
  rintro r s8 ⟨rfl, -, hB, hO⟩
  replace GO := GO.of_block fun b h => hO b (GO.lt h).2 (fun h' => by have h1 := GL b h; have h2 := XL b (.inl h'); omega)
  have hk : ¬ (((1 + qTo Xq Xq.length : Nat) : Int) < 0) := by omega
  have hW8 : Below s3.heap.size s3 s8 := WS.trans hB
  have hb8 : Below w.heap.size w s8 := BB.trans (hB.mono (by have := hsB; omega))
  replace HA := HAb.below hb8
  replace HT := HTb.bel hb8
  replace WO := WOs.below hW8
  replace BB := hb8
  replace WS := hW8
  clear hB hO
  clear X XO
  go_wp2_with fail
  refine (eqOut ans _ _ _ _ _ _ _ _ _ Ge We GO WO hmL hm7).mono ?_
  rintro r s9 ⟨rfl, hB⟩
  replace HA := HA.below hB
  replace WO := WO.below hB
  replace GO := GO.below hB
  replace HT := HT.bel hB
  replace BB := BB.trans (hB.mono BB.size)
  replace WS := WS.trans (hB.mono WS.size)
  clear hB
  go_wp2_with fail
  refine (mark_out _ _ _ 1 Gq _ GO (by omega) (by omega)).mono ?_
  rintro r s10 ⟨rfl, MG, hB, -⟩
  have hW10 : Below s3.heap.size s3 s10 := WS.trans (hB.mono (by have := hsW; first | omega | (simp only [World.size_alloc]; omega)))
  have hb10 : Below w.heap.size w s10 := BB.trans (hB.mono (by have := hsW; have := hsB; first | omega | (simp only [World.size_alloc] at *; omega)))
  replace HT := HTb.bel hb10
  replace WO := WOs.below hW10
  replace BB := hb10
  replace WS := hW10
  clear hB GO
  replace HA := HAb.below hb10
  have hq : ¬ (((1 + qTo Gq Gq.length : Nat) : Int) < 0) := by omega
  have hqq : ((((1 + qTo Gq Gq.length : Nat) : Int)) != (((1 + qTo Gq Gq.length : Nat) : Int))) = false := by simp
  go_wp2_with fail
  refine (held_out _ _ 1 Gq _ MG (by omega) (by omega)).mono ?_
  rintro r wh ⟨rfl, hwh⟩
  rw [hwh]
  clear hwh wh
  go_wp2_with fail
  refine (toIntSS_out _ _ _ _ HA hle hz).mono ?_
  rintro r s11 ⟨Za, Zq, Ze, rfl, ZO, hB⟩
  replace HA := HA.below hB
  replace WO := WO.below hB
  replace MG := MG.below hB
  replace HT := HT.bel hB
  replace BB := BB.trans (hB.mono BB.size)
  replace WS := WS.trans (hB.mono WS.size)
  clear hB
  have Zl : Zq.length = L1.length := by rw [← Ze]; simp
  have Z : Intss s11 Za L1 := by have h := ZO.intss (by rw [Ze]; exact hzm); rwa [Ze] at h
  rw [Zl]
  go_wp2_with fail
  refine (implBO_any _ _ _ _ _ Z hm1 HT).mono ?_
  rw [HANS.out, HOK.out]
  rintro r s12 ⟨Ka, Kc, Kq, Ke, rfl, KO, hB⟩
  replace HA := HA.below hB
  replace WO := WO.below hB
  replace MG := MG.below hB
  replace HT := HT.bel hB
  replace BB := BB.trans (hB.mono BB.size)
  replace WS := WS.trans (hB.mono WS.size)
  clear hB
  go_wp2_with fail
  refine (eqOut ans _ _ _ _ _ _ _ _ _ Ke We KO WO hmL hm7).mono ?_
  rintro r s13 ⟨rfl, hB⟩
  replace HA := HA.below hB
  replace WO := WO.below hB
  replace MG := MG.below hB
  replace HT := HT.bel hB
  replace BB := BB.trans (hB.mono BB.size)
  replace WS := WS.trans (hB.mono WS.size)
  clear hB
  go_wp2_with fail
  refine (held_out _ _ 1 Gq _ MG (by omega) (by omega)).mono ?_
  rintro r wh ⟨rfl, hwh⟩
  rw [hwh]
  clear hwh wh
  go_wp2
  go_ret
  exact ⟨rfl, BB⟩

end Go.Proofs.YtifahambpgnedaaDoor
