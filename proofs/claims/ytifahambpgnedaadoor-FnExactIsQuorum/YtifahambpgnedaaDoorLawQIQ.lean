/-
  The walk of the law FnExactIsQuorum: at all votes and whatever else that can be read it answers true and leaves what was there as it was, where the table of math/bits is laid.
-/
import Derived.Test.YtifahambpgnedaaDoorQIsq
import Derived.Deep.RegionHeld3
namespace Go.Proofs.YtifahambpgnedaaDoor
open Go.RowKit

set_option maxRecDepth 100000 in
set_option maxHeartbeats 4000000 in
theorem lawIsQuorum_any (L0 : List Int) (z0 : Int) (a0 : Option Addr) (c0 : Nat) (L1 : List Int) (a1 : Option Addr) (c1 : Nat) (w : World) (HA0 : Ints w a0 L0) (hm0 : L0.length ≤ maxLen) (HA1 : Ints w a1 L1) (hm1 : L1.length ≤ maxLen) (HT : TabQ w) :
    Calls Tryd.prog 3 #[votV L0 z0 a0 c0, .slice a1 L1.length c1] w fun r w' => r = .returned (.bool true) ∧ Below w.heap.size w w' := by
  have hg0 : ((isqL L0 z0 L1) != (isqL L0 z0 L1)) = false := by cases (isqL L0 z0 L1) <;> rfl
  have hg1 : ((isqOk L0 z0 L1) != (isqOk L0 z0 L1)) = false := by cases (isqOk L0 z0 L1) <;> rfl
  have hu0 := hm0
  unfold maxLen at hu0
  have hu1 := hm1
  unfold maxLen at hu1
  have BB : Below w.heap.size w (w.alloc (.cells #[.slice a0 L0.length c0, .int .i64 z0] 24)) := (Below.refl _ _).alloc (Nat.le_refl _) _
  have cA : (w.alloc (.cells #[.slice a0 L0.length c0, .int .i64 z0] 24)).cell? ⟨w.heap.size, 0, none⟩ = some (.slice a0 L0.length c0) := by simp [go_sem]
  have cN : (w.alloc (.cells #[.slice a0 L0.length c0, .int .i64 z0] 24)).cell? ⟨w.heap.size, 1, none⟩ = some (.int .i64 z0) := by simp [go_sem]
  replace HA0 := HA0.below BB
  replace HA1 := HA1.below BB
  replace HT := HT.bel BB
  by_cases hbig1 : (1048576 : Int) < L1.length
  · go_enter Tryd.func3, Tryd.ntmps3
    go_wp2
    go_ret
    exact ⟨rfl, BB⟩
  have hle1 : L1.length ≤ 1048576 := by omega
  have hr0 := szI_range L0.length (left := 1048576) (by omega)
  by_cases hn0 : szI L0.length 1048576 < 0
  · go_enter Tryd.func3, Tryd.ntmps3
    go_wp2_with fail
    refine (szVotes_any _ _ _ _ _ hm0).mono ?_
    rintro r w1 ⟨rfl, hB⟩
    go_wp2
    go_ret
    exact ⟨rfl, BB.trans (hB.mono BB.size)⟩
  have hle0 : L0.length ≤ 1048576 := by have := (szI_bound (n := L0.length) (left := 1048576) (by omega)).1; omega
  go_enter Tryd.func3, Tryd.ntmps3
  go_wp2_with fail
  refine (szVotes_any _ _ _ _ _ hm0).mono ?_
  rintro r w1 ⟨rfl, hB⟩
  replace HA0 := HA0.below hB
  replace HA1 := HA1.below hB
  replace cA := (hB.cell (p := ⟨w.heap.size, 0, none⟩) (lt_of_cell cA)).trans cA
  replace cN := (hB.cell (p := ⟨w.heap.size, 1, none⟩) (lt_of_cell cN)).trans cN
  replace HT := HT.bel hB
  replace BB := BB.trans (hB.mono BB.size)
  clear hB
  go_wp2_with fail
  refine (toVotes_any _ _ _ _ _ HA0 hle0).mono ?_
  rintro r w2 ⟨H0a, rfl, H0, -, hB⟩
  replace HA0 := HA0.below hB
  replace HA1 := HA1.below hB
  replace cA := (hB.cell (p := ⟨w.heap.size, 0, none⟩) (lt_of_cell cA)).trans cA
  replace cN := (hB.cell (p := ⟨w.heap.size, 1, none⟩) (lt_of_cell cN)).trans cN
  replace HT := HT.bel hB
  replace BB := BB.trans (hB.mono BB.size)
  clear hB
  go_wp2_with fail
  refine (toIntS_any _ _ _ _ HA1 hle1).mono ?_
  rintro r w3 ⟨H1a, rfl, H1, -, hB⟩
  replace HA0 := HA0.below hB
  replace HA1 := HA1.below hB
  replace H0 := H0.below hB
  replace cA := (hB.cell (p := ⟨w.heap.size, 0, none⟩) (lt_of_cell cA)).trans cA
  replace cN := (hB.cell (p := ⟨w.heap.size, 1, none⟩) (lt_of_cell cN)).trans cN
  replace HT := HT.bel hB
  replace BB := BB.trans (hB.mono BB.size)
  clear hB
  go_wp2_with fail
  refine (specIQ_any _ _ _ _ _ _ _ _ H0 H1 hm0 hm1).mono ?_
  rintro r w4 ⟨rfl, hB⟩
  replace HA0 := HA0.below hB
  replace HA1 := HA1.below hB
  replace H0 := H0.below hB
  replace H1 := H1.below hB
  replace cA := (hB.cell (p := ⟨w.heap.size, 0, none⟩) (lt_of_cell cA)).trans cA
  replace cN := (hB.cell (p := ⟨w.heap.size, 1, none⟩) (lt_of_cell cN)).trans cN
  replace HT := HT.bel hB
  replace BB := BB.trans (hB.mono BB.size)
  clear hB
  clear H0
  clear H1
  go_wp2_with fail
  refine (toVotes_any _ _ _ _ _ HA0 hle0).mono ?_
  rintro r w5 ⟨X0a, rfl, X0, -, hB⟩
  replace HA0 := HA0.below hB
  replace HA1 := HA1.below hB
  replace cA := (hB.cell (p := ⟨w.heap.size, 0, none⟩) (lt_of_cell cA)).trans cA
  replace cN := (hB.cell (p := ⟨w.heap.size, 1, none⟩) (lt_of_cell cN)).trans cN
  replace HT := HT.bel hB
  replace BB := BB.trans (hB.mono BB.size)
  clear hB
  have hB : Below w5.heap.size w5 (w5.alloc (.cells #[.slice X0a L0.length L0.length, .int .i64 z0] 28)) := (Below.refl _ _).alloc (Nat.le_refl _) _
  replace HA0 := HA0.below hB
  replace HA1 := HA1.below hB
  replace X0 := X0.below hB
  replace cA := (hB.cell (p := ⟨w.heap.size, 0, none⟩) (lt_of_cell cA)).trans cA
  replace cN := (hB.cell (p := ⟨w.heap.size, 1, none⟩) (lt_of_cell cN)).trans cN
  replace HT := HT.bel hB
  replace BB := BB.trans (hB.mono BB.size)
  clear hB
  have cX : (w5.alloc (.cells #[.slice X0a L0.length L0.length, .int .i64 z0] 28)).cell? ⟨w5.heap.size, 0, none⟩ = some (.slice X0a L0.length L0.length) := by simp [go_sem]
  have cY : (w5.alloc (.cells #[.slice X0a L0.length L0.length, .int .i64 z0] 28)).cell? ⟨w5.heap.size, 1, none⟩ = some (.int .i64 z0) := by simp [go_sem]
  go_wp2_with fail
  refine (toIntS_any _ _ _ _ HA1 hle1).mono ?_
  rintro r w6 ⟨X1a, rfl, X1, -, hB⟩
  replace HA0 := HA0.below hB
  replace HA1 := HA1.below hB
  replace X0 := X0.below hB
  replace cA := (hB.cell (p := ⟨w.heap.size, 0, none⟩) (lt_of_cell cA)).trans cA
  replace cN := (hB.cell (p := ⟨w.heap.size, 1, none⟩) (lt_of_cell cN)).trans cN
  replace cX := (hB.cell (p := ⟨w5.heap.size, 0, none⟩) (lt_of_cell cX)).trans cX
  replace cY := (hB.cell (p := ⟨w5.heap.size, 1, none⟩) (lt_of_cell cY)).trans cY
  replace HT := HT.bel hB
  replace BB := BB.trans (hB.mono BB.size)
  clear hB
  go_wp2_with fail
  refine (implIQ_any _ _ _ _ _ _ _ _ X0 X1 hm0 hm1 HT).mono ?_
  rintro r w7 ⟨rfl, hB⟩
  replace HA0 := HA0.below hB
  replace HA1 := HA1.below hB
  replace X0 := X0.below hB
  replace X1 := X1.below hB
  replace cA := (hB.cell (p := ⟨w.heap.size, 0, none⟩) (lt_of_cell cA)).trans cA
  replace cN := (hB.cell (p := ⟨w.heap.size, 1, none⟩) (lt_of_cell cN)).trans cN
  replace cX := (hB.cell (p := ⟨w5.heap.size, 0, none⟩) (lt_of_cell cX)).trans cX
  replace cY := (hB.cell (p := ⟨w5.heap.size, 1, none⟩) (lt_of_cell cY)).trans cY
  replace HT := HT.bel hB
  replace BB := BB.trans (hB.mono BB.size)
  clear hB
  go_wp2_with fail
  have kk : w7.drew.cell? ⟨w.heap.size, 0, none⟩ = some (.slice a0 L0.length c0) ∧ w7.drew.cell? ⟨w.heap.size, 1, none⟩ = some (.int .i64 z0) ∧ w7.drew.cell? ⟨w5.heap.size, 0, none⟩ = some (.slice X0a L0.length L0.length) ∧ w7.drew.cell? ⟨w5.heap.size, 1, none⟩ = some (.int .i64 z0) := ⟨cA, cN, cX, cY⟩
  go_region_held3 (fun w' => w'.cell? ⟨w.heap.size, 0, none⟩ = some (.slice a0 L0.length c0) ∧ w'.cell? ⟨w.heap.size, 1, none⟩ = some (.int .i64 z0) ∧ w'.cell? ⟨w5.heap.size, 0, none⟩ = some (.slice X0a L0.length L0.length) ∧ w'.cell? ⟨w5.heap.size, 1, none⟩ = some (.int .i64 z0))
    (first | exact kk | go_keep)
    (first
      | (go_at_call 10; refine (toVotes_any _ _ _ _ _ (HA0.below (Below.refl _ _).drew) hle0).mono ?_; rintro r wa ⟨Y0a, rfl, Y0, -, hBa⟩; have X0' := (X0.below (Below.refl _ _).drew).below hBa; have kk : wa.cell? ⟨w.heap.size, 0, none⟩ = some (.slice a0 L0.length c0) ∧ wa.cell? ⟨w.heap.size, 1, none⟩ = some (.int .i64 z0) ∧ wa.cell? ⟨w5.heap.size, 0, none⟩ = some (.slice X0a L0.length L0.length) ∧ wa.cell? ⟨w5.heap.size, 1, none⟩ = some (.int .i64 z0) := ⟨(hBa.cell (p := ⟨w.heap.size, 0, none⟩) (lt_of_cell kk.1)).trans kk.1, (hBa.cell (p := ⟨w.heap.size, 1, none⟩) (lt_of_cell kk.2.1)).trans kk.2.1, (hBa.cell (p := ⟨w5.heap.size, 0, none⟩) (lt_of_cell kk.2.2.1)).trans kk.2.2.1, (hBa.cell (p := ⟨w5.heap.size, 1, none⟩) (lt_of_cell kk.2.2.2)).trans kk.2.2.2⟩)
      | (go_at_call 13; refine (eqVotes_same _ _ _ _ _ _ _ X0' Y0 hm0).mono ?_; rintro r wb ⟨rfl, hBb⟩; have kk : wb.cell? ⟨w.heap.size, 0, none⟩ = some (.slice a0 L0.length c0) ∧ wb.cell? ⟨w.heap.size, 1, none⟩ = some (.int .i64 z0) ∧ wb.cell? ⟨w5.heap.size, 0, none⟩ = some (.slice X0a L0.length L0.length) ∧ wb.cell? ⟨w5.heap.size, 1, none⟩ = some (.int .i64 z0) := ⟨(hBb.cell (p := ⟨w.heap.size, 0, none⟩) (lt_of_cell kk.1)).trans kk.1, (hBb.cell (p := ⟨w.heap.size, 1, none⟩) (lt_of_cell kk.2.1)).trans kk.2.1, (hBb.cell (p := ⟨w5.heap.size, 0, none⟩) (lt_of_cell kk.2.2.1)).trans kk.2.2.1, (hBb.cell (p := ⟨w5.heap.size, 1, none⟩) (lt_of_cell kk.2.2.2)).trans kk.2.2.2⟩))
  have hB : Below w7.heap.size w7 wb := (Below.step_dr (Below.refl _ _) hBa).trans (hBb.mono (Below.step_dr (Below.refl _ _) hBa).size)
  clear kk X0' Y0 hBa hBb X0
  replace HA0 := HA0.below hB
  replace HA1 := HA1.below hB
  replace X1 := X1.below hB
  replace cA := (hB.cell (p := ⟨w.heap.size, 0, none⟩) (lt_of_cell cA)).trans cA
  replace cN := (hB.cell (p := ⟨w.heap.size, 1, none⟩) (lt_of_cell cN)).trans cN
  replace cX := (hB.cell (p := ⟨w5.heap.size, 0, none⟩) (lt_of_cell cX)).trans cX
  replace cY := (hB.cell (p := ⟨w5.heap.size, 1, none⟩) (lt_of_cell cY)).trans cY
  replace HT := HT.bel hB
  replace BB := BB.trans (hB.mono BB.size)
  clear hB
  go_wp2_with fail
  refine (toIntS_any _ _ _ _ HA1 hle1).mono ?_
  rintro r w8 ⟨Y1a, rfl, Y1, -, hB⟩
  replace HA0 := HA0.below hB
  replace HA1 := HA1.below hB
  replace X1 := X1.below hB
  replace cA := (hB.cell (p := ⟨w.heap.size, 0, none⟩) (lt_of_cell cA)).trans cA
  replace cN := (hB.cell (p := ⟨w.heap.size, 1, none⟩) (lt_of_cell cN)).trans cN
  replace cX := (hB.cell (p := ⟨w5.heap.size, 0, none⟩) (lt_of_cell cX)).trans cX
  replace cY := (hB.cell (p := ⟨w5.heap.size, 1, none⟩) (lt_of_cell cY)).trans cY
  replace HT := HT.bel hB
  replace BB := BB.trans (hB.mono BB.size)
  clear hB
  go_wp2_with fail
  refine (eqIntS_same _ _ _ _ _ _ X1 Y1 hm1).mono ?_
  rintro r w9 ⟨rfl, hB⟩
  clear X1 Y1
  replace HA0 := HA0.below hB
  replace HA1 := HA1.below hB
  replace cA := (hB.cell (p := ⟨w.heap.size, 0, none⟩) (lt_of_cell cA)).trans cA
  replace cN := (hB.cell (p := ⟨w.heap.size, 1, none⟩) (lt_of_cell cN)).trans cN
  replace cX := (hB.cell (p := ⟨w5.heap.size, 0, none⟩) (lt_of_cell cX)).trans cX
  replace cY := (hB.cell (p := ⟨w5.heap.size, 1, none⟩) (lt_of_cell cY)).trans cY
  replace HT := HT.bel hB
  replace BB := BB.trans (hB.mono BB.size)
  clear hB
  go_wp2
  go_ret
  exact ⟨rfl, BB⟩

end Go.Proofs.YtifahambpgnedaaDoor
