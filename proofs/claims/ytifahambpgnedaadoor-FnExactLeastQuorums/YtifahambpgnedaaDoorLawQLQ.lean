/-
  The walk of the law FnExactLeastQuorums: at all that can be read it answers true and leaves what was there as it was, where the table of math/bits is laid.
-/
import Derived.Test.YtifahambpgnedaaDoorQLQs
import Derived.Test.YtifahambpgnedaaDoorQLQm
import Derived.Test.YtifahambpgnedaaDoorQLaw
import Derived.Deep.RegionHeld3
namespace Go.Proofs.YtifahambpgnedaaDoor
open Go.RowKit

set_option maxRecDepth 100000 in
set_option maxHeartbeats 8000000 in
theorem lawLeastQuorums_any (L0 : List Int) (z0 : Int) (a0 : Option Addr) (c0 : Nat) (w : World) (HA : Ints w a0 L0) (hm0 : L0.length ≤ maxLen) (HT : TabQ w) :
    Calls Tryd.prog 4 #[votV L0 z0 a0 c0] w fun r w' => r = .returned (.bool true) ∧ Below w.heap.size w w' := by
  obtain ⟨hL, h7⟩ := lqL_small L0 z0
  generalize hans : lqL L0 z0 = ans at hL h7
  have HANS : Hid (lqL L0 z0 = ans) := hans
  generalize hok : goodV L0 z0 = ok
  have HOK : Hid (goodV L0 z0 = ok) := hok
  clear hans hok
  have hT : (ok != ok) = false := by cases ok <;> rfl
  have hmL : ans.length ≤ maxLen := by unfold maxLen; omega
  have hm7 : ∀ zs ∈ ans, zs.length ≤ maxLen := fun zs h => by have := h7 zs h; unfold maxLen; omega
  have B0 : Below w.heap.size w (w.alloc (.cells #[.slice a0 L0.length c0, .int .i64 z0] 24)) := (Below.refl _ _).alloc (Nat.le_refl _) _
  replace HA := HA.below B0
  replace HT := HT.bel B0
  have cA : (w.alloc (.cells #[.slice a0 L0.length c0, .int .i64 z0] 24)).cell? ⟨w.heap.size, 0, none⟩ = some (.slice a0 L0.length c0) := by simp [go_sem]
  have cN : (w.alloc (.cells #[.slice a0 L0.length c0, .int .i64 z0] 24)).cell? ⟨w.heap.size, 1, none⟩ = some (.int .i64 z0) := by simp [go_sem]
  have BB : Below (w.alloc (.cells #[.slice a0 L0.length c0, .int .i64 z0] 24)).heap.size (w.alloc (.cells #[.slice a0 L0.length c0, .int .i64 z0] 24)) (w.alloc (.cells #[.slice a0 L0.length c0, .int .i64 z0] 24)) := Below.refl _ _
  have hu0 := hm0
  unfold maxLen at hu0
  have hr0 := szI_range L0.length (left := 1048576) (by omega)
  by_cases hn0 : szI L0.length 1048576 < 0
  · go_enter Tryd.func4, Tryd.ntmps4
    go_wp2_with fail
    refine (szVotes_any _ _ _ _ _ hm0).mono ?_
    rintro r s1 ⟨rfl, hB⟩
    go_wp2
    go_ret
    exact ⟨rfl, B0.trans (hB.mono B0.size)⟩
  have hle : L0.length ≤ 1048576 := by have := (szI_bound (n := L0.length) (left := 1048576) (by omega)).1; omega
  have HTb := HT
  have HAb := HA
  have cAb := cA
  have cNb := cN
  go_enter Tryd.func4, Tryd.ntmps4
  go_wp2_with fail
  refine (szVotes_any _ _ _ _ _ hm0).mono ?_
  rintro r s1 ⟨rfl, hB⟩
  replace HA := HA.below hB
  replace cA := (hB.cell (p := ⟨w.heap.size, 0, none⟩) (lt_of_cell cA)).trans cA
  replace cN := (hB.cell (p := ⟨w.heap.size, 1, none⟩) (lt_of_cell cN)).trans cN
  replace HT := HT.bel hB
  replace BB := BB.trans (hB.mono BB.size)
  clear hB
  go_wp2_with fail
  refine (toVotes_any _ _ _ _ _ HA hle).mono ?_
  rintro r s2 ⟨H0a, rfl, H0, H0R, hB⟩
  replace HA := HA.below hB
  replace cA := (hB.cell (p := ⟨w.heap.size, 0, none⟩) (lt_of_cell cA)).trans cA
  replace cN := (hB.cell (p := ⟨w.heap.size, 1, none⟩) (lt_of_cell cN)).trans cN
  replace HT := HT.bel hB
  replace BB := BB.trans (hB.mono BB.size)
  clear hB
  clear H0R
  go_wp2_with fail
  refine (specLQ_any _ _ _ _ _ H0 hm0).mono ?_
  rw [HANS.out, HOK.out]
  rintro r s3 ⟨Wa, Wc, Wq, We, rfl, WO, hB⟩
  replace HA := HA.below hB
  replace cA := (hB.cell (p := ⟨w.heap.size, 0, none⟩) (lt_of_cell cA)).trans cA
  replace cN := (hB.cell (p := ⟨w.heap.size, 1, none⟩) (lt_of_cell cN)).trans cN
  replace HT := HT.bel hB
  replace BB := BB.trans (hB.mono BB.size)
  clear hB
  clear H0
  have WS : Below s3.heap.size s3 s3 := Below.refl _ _
  have WL : ∀ b, InO Wa Wq b → b < s3.heap.size := fun b h => (WO.lt h).2
  have WOs := WO
  have hsB := BB.size
  have hsW : s3.heap.size ≤ s3.heap.size := Nat.le_refl _
  go_wp2_with fail
  refine (toVotes_any _ _ _ _ _ HA hle).mono ?_
  rintro r s4 ⟨Xa, rfl, X, XR, hB⟩
  replace HA := HA.below hB
  replace WO := WO.below hB
  replace cA := (hB.cell (p := ⟨w.heap.size, 0, none⟩) (lt_of_cell cA)).trans cA
  replace cN := (hB.cell (p := ⟨w.heap.size, 1, none⟩) (lt_of_cell cN)).trans cN
  replace HT := HT.bel hB
  replace BB := BB.trans (hB.mono BB.size)
  replace WS := WS.trans (hB.mono WS.size)
  have hsX := WS.size
  clear hB
  have XL : ∀ b, InI Xa L0.length b → s3.heap.size ≤ b ∧ b < s4.heap.size := fun b h => XR.lt h
  have hB : Below s4.heap.size s4 (s4.alloc (.cells #[.slice Xa L0.length L0.length, .int .i64 z0] 28)) := (Below.refl _ _).alloc (Nat.le_refl _) _
  replace HA := HA.below hB
  replace WO := WO.below hB
  replace X := X.below hB
  replace XR := XR.below hB
  replace cA := (hB.cell (p := ⟨w.heap.size, 0, none⟩) (lt_of_cell cA)).trans cA
  replace cN := (hB.cell (p := ⟨w.heap.size, 1, none⟩) (lt_of_cell cN)).trans cN
  replace HT := HT.bel hB
  replace BB := BB.trans (hB.mono BB.size)
  replace WS := WS.trans (hB.mono WS.size)
  clear hB
  have cX : (s4.alloc (.cells #[.slice Xa L0.length L0.length, .int .i64 z0] 28)).cell? ⟨s4.heap.size, 0, none⟩ = some (.slice Xa L0.length L0.length) := by simp [go_sem]
  have cY : (s4.alloc (.cells #[.slice Xa L0.length L0.length, .int .i64 z0] 28)).cell? ⟨s4.heap.size, 1, none⟩ = some (.int .i64 z0) := by simp [go_sem]
  go_wp2_with fail
  refine (implLQ_any _ _ _ _ _ X hm0 HT).mono ?_
  rw [HANS.out, HOK.out]
  rintro r s5 ⟨Ga, Gc, Gq, Ge, rfl, GO, hB⟩
  have hsG := hB.size
  replace HA := HA.below hB
  replace WO := WO.below hB
  replace X := X.below hB
  replace XR := XR.below hB
  replace cA := (hB.cell (p := ⟨w.heap.size, 0, none⟩) (lt_of_cell cA)).trans cA
  replace cN := (hB.cell (p := ⟨w.heap.size, 1, none⟩) (lt_of_cell cN)).trans cN
  replace HT := HT.bel hB
  replace BB := BB.trans (hB.mono BB.size)
  replace WS := WS.trans (hB.mono WS.size)
  replace cX := (hB.cell (p := ⟨s4.heap.size, 0, none⟩) (lt_of_cell cX)).trans cX
  replace cY := (hB.cell (p := ⟨s4.heap.size, 1, none⟩) (lt_of_cell cY)).trans cY
  clear hB
  replace hsW : s3.heap.size ≤ s4.heap.size := hsX
  have GL : ∀ b, InO Ga Gq b → (s4.alloc (.cells #[.slice Xa L0.length L0.length, .int .i64 z0] 28)).heap.size ≤ b ∧ b < s5.heap.size := fun b h => GO.lt h
  obtain ⟨gl, gt⟩ := qTo_small Ge h7 hL
  go_wp2_with fail
  refine (eqOut ans _ _ _ _ _ _ _ _ _ Ge We GO WO hmL hm7).mono ?_
  rintro r s6 ⟨rfl, hB⟩
  replace HA := HA.below hB
  replace WO := WO.below hB
  replace X := X.below hB
  replace XR := XR.below hB
  replace GO := GO.below hB
  replace cA := (hB.cell (p := ⟨w.heap.size, 0, none⟩) (lt_of_cell cA)).trans cA
  replace cN := (hB.cell (p := ⟨w.heap.size, 1, none⟩) (lt_of_cell cN)).trans cN
  replace HT := HT.bel hB
  replace BB := BB.trans (hB.mono BB.size)
  replace WS := WS.trans (hB.mono WS.size)
  replace cX := (hB.cell (p := ⟨s4.heap.size, 0, none⟩) (lt_of_cell cX)).trans cX
  replace cY := (hB.cell (p := ⟨s4.heap.size, 1, none⟩) (lt_of_cell cY)).trans cY
  clear hB
  go_wp2_with fail
  have kk : s6.drew.cell? ⟨w.heap.size, 0, none⟩ = some (.slice a0 L0.length c0) ∧ s6.drew.cell? ⟨w.heap.size, 1, none⟩ = some (.int .i64 z0) ∧ s6.drew.cell? ⟨s4.heap.size, 0, none⟩ = some (.slice Xa L0.length L0.length) ∧ s6.drew.cell? ⟨s4.heap.size, 1, none⟩ = some (.int .i64 z0) := ⟨cA, cN, cX, cY⟩
  go_region_held3 (fun w' => w'.cell? ⟨w.heap.size, 0, none⟩ = some (.slice a0 L0.length c0) ∧ w'.cell? ⟨w.heap.size, 1, none⟩ = some (.int .i64 z0) ∧ w'.cell? ⟨s4.heap.size, 0, none⟩ = some (.slice Xa L0.length L0.length) ∧ w'.cell? ⟨s4.heap.size, 1, none⟩ = some (.int .i64 z0))
    (first | exact kk | go_keep)
    (first
      | (go_at_call 10; refine (toVotes_any _ _ _ _ _ (HA.below (Below.refl _ _).drew) hle).mono ?_; rintro r wa ⟨Y0a, rfl, Y0, -, hBa⟩; have X' := (X.below (Below.refl _ _).drew).below hBa; have kk : wa.cell? ⟨w.heap.size, 0, none⟩ = some (.slice a0 L0.length c0) ∧ wa.cell? ⟨w.heap.size, 1, none⟩ = some (.int .i64 z0) ∧ wa.cell? ⟨s4.heap.size, 0, none⟩ = some (.slice Xa L0.length L0.length) ∧ wa.cell? ⟨s4.heap.size, 1, none⟩ = some (.int .i64 z0) := ⟨(hBa.cell (p := ⟨w.heap.size, 0, none⟩) (lt_of_cell kk.1)).trans kk.1, (hBa.cell (p := ⟨w.heap.size, 1, none⟩) (lt_of_cell kk.2.1)).trans kk.2.1, (hBa.cell (p := ⟨s4.heap.size, 0, none⟩) (lt_of_cell kk.2.2.1)).trans kk.2.2.1, (hBa.cell (p := ⟨s4.heap.size, 1, none⟩) (lt_of_cell kk.2.2.2)).trans kk.2.2.2⟩)
      | (go_at_call 13; refine (eqVotes_same _ _ _ _ _ _ _ X' Y0 hm0).mono ?_; rintro r wb ⟨rfl, hBb⟩; have kk : wb.cell? ⟨w.heap.size, 0, none⟩ = some (.slice a0 L0.length c0) ∧ wb.cell? ⟨w.heap.size, 1, none⟩ = some (.int .i64 z0) ∧ wb.cell? ⟨s4.heap.size, 0, none⟩ = some (.slice Xa L0.length L0.length) ∧ wb.cell? ⟨s4.heap.size, 1, none⟩ = some (.int .i64 z0) := ⟨(hBb.cell (p := ⟨w.heap.size, 0, none⟩) (lt_of_cell kk.1)).trans kk.1, (hBb.cell (p := ⟨w.heap.size, 1, none⟩) (lt_of_cell kk.2.1)).trans kk.2.1, (hBb.cell (p := ⟨s4.heap.size, 0, none⟩) (lt_of_cell kk.2.2.1)).trans kk.2.2.1, (hBb.cell (p := ⟨s4.heap.size, 1, none⟩) (lt_of_cell kk.2.2.2)).trans kk.2.2.2⟩))
  have hB : Below s6.heap.size s6 wb := (Below.step_dr (Below.refl _ _) hBa).trans (hBb.mono (Below.step_dr (Below.refl _ _) hBa).size)
  clear kk X' Y0 hBa hBb
  replace HA := HA.below hB
  replace WO := WO.below hB
  replace X := X.below hB
  replace XR := XR.below hB
  replace GO := GO.below hB
  replace cA := (hB.cell (p := ⟨w.heap.size, 0, none⟩) (lt_of_cell cA)).trans cA
  replace cN := (hB.cell (p := ⟨w.heap.size, 1, none⟩) (lt_of_cell cN)).trans cN
  replace HT := HT.bel hB
  replace BB := BB.trans (hB.mono BB.size)
  replace WS := WS.trans (hB.mono WS.size)
  replace cX := (hB.cell (p := ⟨s4.heap.size, 0, none⟩) (lt_of_cell cX)).trans cX
  replace cY := (hB.cell (p := ⟨s4.heap.size, 1, none⟩) (lt_of_cell cY)).trans cY
  clear hB
  go_wp2_with fail
  refine (markVotes_any _ _ _ _ s3.heap.size 1 _ XR (by have := WS.size; omega) (by omega)).mono ?_
  rintro r s8 ⟨rfl, hB, hO⟩
  replace GO := GO.of_block fun b h => hO b (GO.lt h).2 (fun h' => by have h1 := GL b h; have h2 := XL b h'; simp only [World.size_alloc] at h1; omega)
  have hk : ¬ (((1 + L0.length : Nat) : Int) < 0) := by omega
  have hW8 : Below s3.heap.size s3 s8 := WS.trans hB
  have hb8 : Below (w.alloc (.cells #[.slice a0 L0.length c0, .int .i64 z0] 24)).heap.size (w.alloc (.cells #[.slice a0 L0.length c0, .int .i64 z0] 24)) s8 := BB.trans (hB.mono (by have := hsB; omega))
  replace HA := HAb.below hb8
  replace HT := HTb.bel hb8
  replace cA := (hb8.cell (p := ⟨w.heap.size, 0, none⟩) (lt_of_cell cAb)).trans cAb
  replace cN := (hb8.cell (p := ⟨w.heap.size, 1, none⟩) (lt_of_cell cNb)).trans cNb
  replace WO := WOs.below hW8
  replace BB := hb8
  replace WS := hW8
  clear hB hO
  clear cX cY X XR
  go_wp2_with fail
  refine (eqOut ans _ _ _ _ _ _ _ _ _ Ge We GO WO hmL hm7).mono ?_
  rintro r s9 ⟨rfl, hB⟩
  replace HA := HA.below hB
  replace WO := WO.below hB
  replace GO := GO.below hB
  replace cA := (hB.cell (p := ⟨w.heap.size, 0, none⟩) (lt_of_cell cA)).trans cA
  replace cN := (hB.cell (p := ⟨w.heap.size, 1, none⟩) (lt_of_cell cN)).trans cN
  replace HT := HT.bel hB
  replace BB := BB.trans (hB.mono BB.size)
  replace WS := WS.trans (hB.mono WS.size)
  clear hB
  go_wp2_with fail
  refine (mark_out _ _ _ 1 Gq _ GO (by omega) (by omega)).mono ?_
  rintro r s10 ⟨rfl, MG, hB, -⟩
  have hW10 : Below s3.heap.size s3 s10 := WS.trans (hB.mono (by have := hsW; first | omega | (simp only [World.size_alloc]; omega)))
  have hb10 : Below (w.alloc (.cells #[.slice a0 L0.length c0, .int .i64 z0] 24)).heap.size (w.alloc (.cells #[.slice a0 L0.length c0, .int .i64 z0] 24)) s10 := BB.trans (hB.mono (by have := hsW; have := hsB; first | omega | (simp only [World.size_alloc] at *; omega)))
  replace HT := HTb.bel hb10
  replace WO := WOs.below hW10
  replace BB := hb10
  replace WS := hW10
  clear hB GO
  replace HA := HAb.below hb10
  replace cA := (hb10.cell (p := ⟨w.heap.size, 0, none⟩) (lt_of_cell cAb)).trans cAb
  replace cN := (hb10.cell (p := ⟨w.heap.size, 1, none⟩) (lt_of_cell cNb)).trans cNb
  have hq : ¬ (((1 + qTo Gq Gq.length : Nat) : Int) < 0) := by omega
  have hqq : ((((1 + qTo Gq Gq.length : Nat) : Int)) != (((1 + qTo Gq Gq.length : Nat) : Int))) = false := by simp
  go_wp2_with fail
  refine (held_out _ _ 1 Gq _ MG (by omega) (by omega)).mono ?_
  rintro r wh ⟨rfl, hwh⟩
  rw [hwh]
  clear hwh wh
  go_wp2_with fail
  refine (toVotes_any _ _ _ _ _ HA hle).mono ?_
  rintro r s11 ⟨Za, rfl, Z, ZR, hB⟩
  replace HA := HA.below hB
  replace WO := WO.below hB
  replace MG := MG.below hB
  replace cA := (hB.cell (p := ⟨w.heap.size, 0, none⟩) (lt_of_cell cA)).trans cA
  replace cN := (hB.cell (p := ⟨w.heap.size, 1, none⟩) (lt_of_cell cN)).trans cN
  replace HT := HT.bel hB
  replace BB := BB.trans (hB.mono BB.size)
  replace WS := WS.trans (hB.mono WS.size)
  clear hB
  go_wp2_with fail
  refine (implLQ_any _ _ _ _ _ Z hm0 HT).mono ?_
  rw [HANS.out, HOK.out]
  rintro r s12 ⟨Ka, Kc, Kq, Ke, rfl, KO, hB⟩
  replace HA := HA.below hB
  replace WO := WO.below hB
  replace MG := MG.below hB
  replace cA := (hB.cell (p := ⟨w.heap.size, 0, none⟩) (lt_of_cell cA)).trans cA
  replace cN := (hB.cell (p := ⟨w.heap.size, 1, none⟩) (lt_of_cell cN)).trans cN
  replace HT := HT.bel hB
  replace BB := BB.trans (hB.mono BB.size)
  replace WS := WS.trans (hB.mono WS.size)
  clear hB
  go_wp2_with fail
  refine (eqOut ans _ _ _ _ _ _ _ _ _ Ke We KO WO hmL hm7).mono ?_
  rintro r s13 ⟨rfl, hB⟩
  replace HA := HA.below hB
  replace WO := WO.below hB
  replace MG := MG.below hB
  replace cA := (hB.cell (p := ⟨w.heap.size, 0, none⟩) (lt_of_cell cA)).trans cA
  replace cN := (hB.cell (p := ⟨w.heap.size, 1, none⟩) (lt_of_cell cN)).trans cN
  replace HT := HT.bel hB
  replace BB := BB.trans (hB.mono BB.size)
  replace WS := WS.trans (hB.mono WS.size)
  clear hB
  go_wp2_with fail
  refine (held_out _ _ 1 Gq _ MG (by omega) (by omega)).mono ?_
  rintro r wh ⟨rfl, hwh⟩
  rw [hwh]
  clear hwh wh
  go_wp2
  go_ret
  exact ⟨rfl, B0.trans (BB.mono B0.size)⟩

end Go.Proofs.YtifahambpgnedaaDoor
