/-
  The walk of the law FnExactBehindIn, the contracts of spec.BehindIn and impl.BehindIn given: at all that can be read it answers true and leaves what was there as it was. Made by mkwlaw.py.
-/
import Derived.Test.YtekjpbfmiebigaaDoorCluW
import Derived.Deep.RegionHeld3
import Derived.WalkMore
namespace Go.Proofs.YtekjpbfmiebigaaDoor
open Go.RowKit

set_option maxRecDepth 100000 in
set_option maxHeartbeats 8000000 in
theorem lawCuBHd (s : Cu) (gs : List Int) (ok : Bool) (a0 a1 a2 : Option Addr) (c0 c1 c2 : Nat) (w : World) (hs : CuR w s a0 a1 a2) (hL : CuL s) (hgm : gs.length ≤ 1000000)
    (HS0 : CuB s → ∀ (u : World) (b0 b1 b2 : Option Addr) (d0 d1 d2 : Nat), CuR u s b0 b1 b2 → Calls Tryd.prog 11 #[cuV s b0 d0 b1 d1 b2 d2] u fun e u' => ∃ a' c', e = .returned (.tuple #[.slice a' gs.length c', .bool ok]) ∧ Ints u' a' gs ∧ Below u.heap.size u u')
    (HI0 : CuB s → ∀ (u : World) (b0 b1 b2 : Option Addr) (d0 d1 d2 : Nat), CuR u s b0 b1 b2 → Below w.heap.size w u → Calls Tryd.prog 13 #[cuV s b0 d0 b1 d1 b2 d2] u fun e u' => ∃ a' c', e = .returned (.tuple #[.slice a' gs.length c', .bool ok]) ∧ Ints u' a' gs ∧ RowI u' u.heap.size a' gs.length ∧ Below u.heap.size u u') :
    Calls Tryd.prog 4 #[cuV s a0 c0 a1 c1 a2 c2] w fun r w' => r = .returned (.bool true) ∧ Below w.heap.size w w' := by
  have hT : (ok != ok) = false := by cases ok <;> rfl
  have hgl : gs.length ≤ maxLen := by unfold maxLen; omega
  have hr := szCu_range s
  obtain ⟨u0, hu0⟩ : ∃ u0, (w.alloc (.cells #[.int .i64 s.tep, .int .i64 s.tld, .slice a0 s.tst.length c0, .slice a1 s.nodes.length c1, .slice a2 s.acked.length c2] 38)) = u0 := ⟨_, rfl⟩
  have kk : u0.cell? ⟨w.heap.size, 0, none⟩ = some (.int .i64 s.tep) ∧ u0.cell? ⟨w.heap.size, 1, none⟩ = some (.int .i64 s.tld) ∧ u0.cell? ⟨w.heap.size, 2, none⟩ = some (.slice a0 s.tst.length c0) ∧ u0.cell? ⟨w.heap.size, 3, none⟩ = some (.slice a1 s.nodes.length c1) ∧ u0.cell? ⟨w.heap.size, 4, none⟩ = some (.slice a2 s.acked.length c2) := by rw [← hu0]; simp [go_sem]
  have BW : Below w.heap.size w u0 := by rw [← hu0]; exact alCu _ _
  have z0 : w.heap.size < u0.heap.size := by rw [← hu0]; simp
  have qq := kk
  obtain ⟨q0, q1, q2, q3, q4⟩ := qq
  go_enter Tryd.func4, Tryd.ntmps4
  go_wp2_with fail
  clear hu0 q0 q1 q2 q3 q4
  refine (szCluster_any s _ _ _ _ _ _ _ (hs.below BW) hL).mono ?_
  rintro r w1 ⟨rfl, hB⟩
  replace kk := cu_keep hB kk
  replace BW := stCu BW hB
  have z1 : w.heap.size < w1.heap.size := by have := hB.size; omega
  obtain ⟨q0, q1, q2, q3, q4⟩ := kk
  clear hB z0
  by_cases hbig : szCu s < 0
  · go_wp2
    go_ret
    exact ⟨rfl, BW⟩
  have hb : CuB s := szCu_bound (by omega)
  have HS : Hid (∀ (u : World) (b0 b1 b2 : Option Addr) (d0 d1 d2 : Nat), CuR u s b0 b1 b2 → Calls Tryd.prog 11 #[cuV s b0 d0 b1 d1 b2 d2] u fun e u' => ∃ a' c', e = .returned (.tuple #[.slice a' gs.length c', .bool ok]) ∧ Ints u' a' gs ∧ Below u.heap.size u u') := HS0 hb
  have HI : Hid (∀ (u : World) (b0 b1 b2 : Option Addr) (d0 d1 d2 : Nat), CuR u s b0 b1 b2 → Below w.heap.size w u → Calls Tryd.prog 13 #[cuV s b0 d0 b1 d1 b2 d2] u fun e u' => ∃ a' c', e = .returned (.tuple #[.slice a' gs.length c', .bool ok]) ∧ Ints u' a' gs ∧ RowI u' u.heap.size a' gs.length ∧ Below u.heap.size u u') := HI0 hb
  clear HS0 HI0
  go_wp2_with fail
  refine (toCluster_any s _ _ _ _ _ _ _ (hs.below BW) hb).mono ?_
  rintro r w2 ⟨b0, b1, b2, rfl, T1, hB⟩
  have kk2 := cu_keep hB ⟨q0, q1, q2, q3, q4⟩
  replace BW := stCu BW hB
  have z2 : w.heap.size < w2.heap.size := by have := hB.size; omega
  clear q0 q1 q2 q3 q4 hB z1
  go_wp2_with fail
  refine (HS.out _ _ _ _ _ _ _ T1).mono ?_
  rintro r w3 ⟨wa, wc, rfl, HW, hB⟩
  have kk3 := cu_keep hB kk2
  replace BW := stCu BW hB
  have z3 : w.heap.size < w3.heap.size := by have := hB.size; omega
  have B3 : Below w3.heap.size w3 w3 := Below.refl _ _
  obtain ⟨q0, q1, q2, q3, q4⟩ := kk3
  clear kk2 hB T1 HS z2
  go_wp2_with fail
  refine (toCluster_wk s _ _ _ _ _ _ _ (hs.below BW) hb).mono ?_
  rintro r w4 ⟨x0, x1, x2, rfl, T2, V2, hB⟩
  have kk4 := cu_keep hB ⟨q0, q1, q2, q3, q4⟩
  replace BW := stCu BW hB
  replace B3 := stCu B3 hB
  have z4 : w3.heap.size ≤ w4.heap.size := hB.size
  clear q0 q1 q2 q3 q4 hB
  obtain ⟨u4, hu4⟩ : ∃ u4, (w4.alloc (.cells #[.int .i64 s.tep, .int .i64 s.tld, .slice x0 s.tst.length s.tst.length, .slice x1 s.nodes.length s.nodes.length, .slice x2 s.acked.length s.acked.length] 28)) = u4 := ⟨_, rfl⟩
  have jj : u4.cell? ⟨w4.heap.size, 0, none⟩ = some (.int .i64 s.tep) ∧ u4.cell? ⟨w4.heap.size, 1, none⟩ = some (.int .i64 s.tld) ∧ u4.cell? ⟨w4.heap.size, 2, none⟩ = some (.slice x0 s.tst.length s.tst.length) ∧ u4.cell? ⟨w4.heap.size, 3, none⟩ = some (.slice x1 s.nodes.length s.nodes.length) ∧ u4.cell? ⟨w4.heap.size, 4, none⟩ = some (.slice x2 s.acked.length s.acked.length) := by rw [← hu4]; simp [go_sem]
  have bB : Below w4.heap.size w4 u4 := by rw [← hu4]; exact alCu _ _
  have zu : u4.heap.size = w4.heap.size + 1 := by rw [← hu4]; simp
  have jq := jj
  obtain ⟨q0, q1, q2, q3, q4⟩ := jq
  go_wp2_with fail
  clear hu4 q0 q1 q2 q3 q4
  refine (HI.out _ _ _ _ _ _ _ (T2.below bB) (stCu BW bB)).mono ?_
  rintro r w5 ⟨ga, gc, rfl, HG, RG, hB⟩
  have lG : ∀ b, InI ga gs.length b → w4.heap.size + 1 ≤ b ∧ b < w5.heap.size := fun b h => by have := RG.lt h; omega
  have B5 := stCu bB hB
  have kk5 := cu_keep B5 kk4
  have jj5 := cu_keep hB jj
  have T5 := T2.below B5
  have V5 := V2.below B5
  replace BW := stCu BW B5
  replace B3 := stCu B3 B5
  have z5 : w4.heap.size < w5.heap.size := by have := B5.size; have := hB.size; omega
  rw [zu] at RG
  clear kk4 jj T2 V2 hB B5 bB hr zu u4
  go_wp2_with fail
  refine (eqIntS_same _ _ _ _ gs _ HG (HW.below B3) hgl).mono ?_
  rintro r w6 ⟨rfl, hB⟩
  have kk6 := cu_keep hB kk5
  have jj6 := cu_keep hB jj5
  replace HG := HG.below hB
  replace RG := RG.below hB
  replace T5 := T5.below hB
  replace V5 := V5.below hB
  replace BW := stCu BW hB
  replace B3 := stCu B3 hB
  replace z5 : w4.heap.size < w6.heap.size := by have := hB.size; omega
  replace lG : ∀ b, InI ga gs.length b → w4.heap.size + 1 ≤ b ∧ b < w6.heap.size := fun b h => by have := lG b h; have := hB.size; omega
  clear hB kk5 jj5
  go_wp2
  have kz : (w6.cell? ⟨w.heap.size, 0, none⟩ = some (.int .i64 s.tep) ∧ w6.cell? ⟨w.heap.size, 1, none⟩ = some (.int .i64 s.tld) ∧ w6.cell? ⟨w.heap.size, 2, none⟩ = some (.slice a0 s.tst.length c0) ∧ w6.cell? ⟨w.heap.size, 3, none⟩ = some (.slice a1 s.nodes.length c1) ∧ w6.cell? ⟨w.heap.size, 4, none⟩ = some (.slice a2 s.acked.length c2)) ∧ (w6.cell? ⟨w4.heap.size, 0, none⟩ = some (.int .i64 s.tep) ∧ w6.cell? ⟨w4.heap.size, 1, none⟩ = some (.int .i64 s.tld) ∧ w6.cell? ⟨w4.heap.size, 2, none⟩ = some (.slice x0 s.tst.length s.tst.length) ∧ w6.cell? ⟨w4.heap.size, 3, none⟩ = some (.slice x1 s.nodes.length s.nodes.length) ∧ w6.cell? ⟨w4.heap.size, 4, none⟩ = some (.slice x2 s.acked.length s.acked.length)) := ⟨kk6, jj6⟩
  refine wp_region_noPanic ?_
  refine wp_region_held_drew (S := fun w' => (w'.cell? ⟨w.heap.size, 0, none⟩ = some (.int .i64 s.tep) ∧ w'.cell? ⟨w.heap.size, 1, none⟩ = some (.int .i64 s.tld) ∧ w'.cell? ⟨w.heap.size, 2, none⟩ = some (.slice a0 s.tst.length c0) ∧ w'.cell? ⟨w.heap.size, 3, none⟩ = some (.slice a1 s.nodes.length c1) ∧ w'.cell? ⟨w.heap.size, 4, none⟩ = some (.slice a2 s.acked.length c2)) ∧ (w'.cell? ⟨w4.heap.size, 0, none⟩ = some (.int .i64 s.tep) ∧ w'.cell? ⟨w4.heap.size, 1, none⟩ = some (.int .i64 s.tld) ∧ w'.cell? ⟨w4.heap.size, 2, none⟩ = some (.slice x0 s.tst.length s.tst.length) ∧ w'.cell? ⟨w4.heap.size, 3, none⟩ = some (.slice x1 s.nodes.length s.nodes.length) ∧ w'.cell? ⟨w4.heap.size, 4, none⟩ = some (.slice x2 s.acked.length s.acked.length))) (by kernel_rfl) kz (fun hH => ?_)
  refine wpAnyH_take (i := 0) (oi := ⟨_, _, _, _, _, _⟩) (v := ?vz0) rfl (by kernel_rfl) (by kernel_rfl) (by kernel_rfl) (fun _ _ _ h => h) (Or.inl ⟨by rfl, ?yz0⟩) (by assumption) ?rz0
  case yz0 => intro w hSw; (try dsimp only at hSw); go_simp; try with_reducible rfl
  try simp only [Act.put, List.setIfInBounds_toArray, List.set_cons_zero, List.set_cons_succ]
  refine wpAnyH_take (i := 1) (oi := ⟨_, _, _, _, _, _⟩) (v := ?vz1) rfl (by kernel_rfl) (by kernel_rfl) (by kernel_rfl) (fun _ _ _ h => h) (Or.inl ⟨by rfl, ?yz1⟩) (by assumption) ?rz1
  case yz1 => intro w hSw; (try dsimp only at hSw); go_simp; try with_reducible rfl
  try simp only [Act.put, List.setIfInBounds_toArray, List.set_cons_zero, List.set_cons_succ]
  refine wpAnyH_ready (rs := [2]) (by kernel_rfl) (by simp) ?_
  refine AllReadyH.cons (o := ⟨_, _, _, _, _, _⟩) rfl (fun KK hK => ?_) AllReadyH.nil
  go_simp
  refine (toCluster_any s _ _ _ _ _ _ _ ((hs.below BW).below (Below.refl _ _).drew) hb).mono ?_
  rintro r w7 ⟨y0, y1, y2, rfl, T6, hB6⟩
  have B6 : Below w6.heap.size w6 w7 := (Below.refl _ _).drew.trans (hB6.mono (by simp))
  replace T5 := T5.below B6
  replace BW := stCu BW B6
  replace B3 := stCu B3 B6
  replace HG := HG.below B6
  replace RG := RG.below B6
  replace V5 := V5.below B6
  have z7 : w6.heap.size ≤ w7.heap.size := B6.size
  have kz6 : (w7.cell? ⟨w.heap.size, 0, none⟩ = some (.int .i64 s.tep) ∧ w7.cell? ⟨w.heap.size, 1, none⟩ = some (.int .i64 s.tld) ∧ w7.cell? ⟨w.heap.size, 2, none⟩ = some (.slice a0 s.tst.length c0) ∧ w7.cell? ⟨w.heap.size, 3, none⟩ = some (.slice a1 s.nodes.length c1) ∧ w7.cell? ⟨w.heap.size, 4, none⟩ = some (.slice a2 s.acked.length c2)) ∧ (w7.cell? ⟨w4.heap.size, 0, none⟩ = some (.int .i64 s.tep) ∧ w7.cell? ⟨w4.heap.size, 1, none⟩ = some (.int .i64 s.tld) ∧ w7.cell? ⟨w4.heap.size, 2, none⟩ = some (.slice x0 s.tst.length s.tst.length) ∧ w7.cell? ⟨w4.heap.size, 3, none⟩ = some (.slice x1 s.nodes.length s.nodes.length) ∧ w7.cell? ⟨w4.heap.size, 4, none⟩ = some (.slice x2 s.acked.length s.acked.length)) := ⟨cu_keep B6 kk6, cu_keep B6 jj6⟩
  clear hB6 B6
  go_wp2_with fail
  refine hK.out _ _ kz6 (fun hH2 => ?_)
  clear hK KK hH
  try simp only [Act.put, List.setIfInBounds_toArray, List.set_cons_zero, List.set_cons_succ]
  refine wpAnyH_ready (rs := [3]) (by kernel_rfl) (by simp) ?_
  refine AllReadyH.cons (o := ⟨_, _, _, _, _, _⟩) rfl (fun KK hK => ?_) AllReadyH.nil
  go_simp
  refine (eqCluster_same s _ _ _ _ _ _ _ _ _ _ _ _ _ T5 T6 hL).mono ?_
  rintro r w8 ⟨rfl, hB7⟩
  replace BW := stCu BW hB7
  replace B3 := stCu B3 hB7
  replace HG := HG.below hB7
  replace RG := RG.below hB7
  replace V5 := V5.below hB7
  have z8 : w7.heap.size ≤ w8.heap.size := hB7.size
  have kz7 : (w8.cell? ⟨w.heap.size, 0, none⟩ = some (.int .i64 s.tep) ∧ w8.cell? ⟨w.heap.size, 1, none⟩ = some (.int .i64 s.tld) ∧ w8.cell? ⟨w.heap.size, 2, none⟩ = some (.slice a0 s.tst.length c0) ∧ w8.cell? ⟨w.heap.size, 3, none⟩ = some (.slice a1 s.nodes.length c1) ∧ w8.cell? ⟨w.heap.size, 4, none⟩ = some (.slice a2 s.acked.length c2)) ∧ (w8.cell? ⟨w4.heap.size, 0, none⟩ = some (.int .i64 s.tep) ∧ w8.cell? ⟨w4.heap.size, 1, none⟩ = some (.int .i64 s.tld) ∧ w8.cell? ⟨w4.heap.size, 2, none⟩ = some (.slice x0 s.tst.length s.tst.length) ∧ w8.cell? ⟨w4.heap.size, 3, none⟩ = some (.slice x1 s.nodes.length s.nodes.length) ∧ w8.cell? ⟨w4.heap.size, 4, none⟩ = some (.slice x2 s.acked.length s.acked.length)) := ⟨cu_keep hB7 kz6.1, cu_keep hB7 kz6.2⟩
  clear hB7
  go_wp2_with fail
  refine hK.out _ _ kz7 (fun hH3 => ?_)
  clear hK KK hH2
  try simp only [Act.put, List.setIfInBounds_toArray, List.set_cons_zero, List.set_cons_succ]
  refine wpAnyH_take (i := 4) (oi := ⟨_, _, _, _, _, _⟩) (v := ?vz4) rfl (by kernel_rfl) (by kernel_rfl) (by kernel_rfl) (fun _ _ _ h => h) (Or.inl ⟨by rfl, ?yz4⟩) (by assumption) ?rz4
  case yz4 => intro w hSw; (try dsimp only at hSw); go_simp; try with_reducible rfl
  try simp only [Act.put, List.setIfInBounds_toArray, List.set_cons_zero, List.set_cons_succ]
  refine wpAnyH_done (by kernel_rfl) (NoPanic.normal ?_) _
  clear T5 T6
  obtain ⟨kk8, jj8⟩ := kz7
  have jq := jj8
  obtain ⟨q0, q1, q2, q3, q4⟩ := jq
  go_wp2_with fail
  clear q0 q1 q2 q3 q4
  refine (markCluster_wk s w3.heap.size w4.heap.size 1 _ _ _ _ _ _ _ V5 hb (by omega) (by omega) (by omega)).mono ?_
  rintro r w9 ⟨k9, rfl, X⟩
  have hk9 : ¬ ((k9 : Int) < 0) := by omega
  have kk9 : w9.cell? ⟨w.heap.size, 0, none⟩ = some (.int .i64 s.tep) ∧ w9.cell? ⟨w.heap.size, 1, none⟩ = some (.int .i64 s.tld) ∧ w9.cell? ⟨w.heap.size, 2, none⟩ = some (.slice a0 s.tst.length c0) ∧ w9.cell? ⟨w.heap.size, 3, none⟩ = some (.slice a1 s.nodes.length c1) ∧ w9.cell? ⟨w.heap.size, 4, none⟩ = some (.slice a2 s.acked.length c2) := ⟨X.cell (.inl (by omega)) kk8.1, X.cell (.inl (by omega)) kk8.2.1, X.cell (.inl (by omega)) kk8.2.2.1, X.cell (.inl (by omega)) kk8.2.2.2.1, X.cell (.inl (by omega)) kk8.2.2.2.2⟩
  replace HG := HG.of_block (fun b h => X.block (.inr (by have := lG b h; omega)) (HG.lt b h))
  replace RG := RG.of_block (fun b h => X.block (.inr (by have := lG b h; omega)) (RG.lt h).2)
  replace BW := BW.trans (X.bel.mono (by omega))
  replace B3 := B3.trans X.bel
  have z9 : w8.heap.size ≤ w9.heap.size := X.bel.size
  replace lG : ∀ b, InI ga gs.length b → w4.heap.size + 1 ≤ b ∧ b < w9.heap.size := fun b h => by have := lG b h; omega
  clear X V5 kk8 jj8
  go_wp2_with fail
  refine (eqIntS_same _ _ _ _ gs _ HG (HW.below B3) hgl).mono ?_
  rintro r wA ⟨rfl, hB⟩
  have kkA := cu_keep hB kk9
  replace RG := RG.below hB
  replace BW := stCu BW hB
  replace B3 := stCu B3 hB
  have zA : w9.heap.size ≤ wA.heap.size := hB.size
  clear hB kk9 HG
  go_wp2_with fail
  refine (markIntS_any _ _ gs.length (w4.heap.size + 1) 1 _ RG (by omega)).mono ?_
  rintro r wB ⟨rfl, HM, -, hB, hO⟩
  have kkB : wB.cell? ⟨w.heap.size, 0, none⟩ = some (.int .i64 s.tep) ∧ wB.cell? ⟨w.heap.size, 1, none⟩ = some (.int .i64 s.tld) ∧ wB.cell? ⟨w.heap.size, 2, none⟩ = some (.slice a0 s.tst.length c0) ∧ wB.cell? ⟨w.heap.size, 3, none⟩ = some (.slice a1 s.nodes.length c1) ∧ wB.cell? ⟨w.heap.size, 4, none⟩ = some (.slice a2 s.acked.length c2) := by
    obtain ⟨q0, q1, q2, q3, q4⟩ := kkA
    exact ⟨(World.cell?_of_block (a := ⟨w.heap.size, 0, none⟩) (hO _ (lt_of_cell q0) (fun h => by have := lG w.heap.size h; omega))).trans q0, (World.cell?_of_block (a := ⟨w.heap.size, 1, none⟩) (hO _ (lt_of_cell q1) (fun h => by have := lG w.heap.size h; omega))).trans q1, (World.cell?_of_block (a := ⟨w.heap.size, 2, none⟩) (hO _ (lt_of_cell q2) (fun h => by have := lG w.heap.size h; omega))).trans q2, (World.cell?_of_block (a := ⟨w.heap.size, 3, none⟩) (hO _ (lt_of_cell q3) (fun h => by have := lG w.heap.size h; omega))).trans q3, (World.cell?_of_block (a := ⟨w.heap.size, 4, none⟩) (hO _ (lt_of_cell q4) (fun h => by have := lG w.heap.size h; omega))).trans q4⟩
  replace BW := BW.trans (hB.mono (by omega))
  replace B3 := B3.trans (hB.mono (by omega))
  clear hB hO RG kkA lG
  have hq : ¬ (((1 + gs.length : Nat) : Int) < 0) := by omega
  go_wp2_with fail
  refine (heldIntS_any _ _ gs.length 1 _ HM (by omega)).mono ?_
  rintro r wh ⟨rfl, hwh⟩
  rw [hwh]
  clear hwh wh
  obtain ⟨q0, q1, q2, q3, q4⟩ := kkB
  go_wp2_with fail
  refine (toCluster_any s _ _ _ _ _ _ _ (hs.below BW) hb).mono ?_
  rintro r wC ⟨v0, v1, v2, rfl, T9, hB⟩
  replace HM := HM.below hB
  replace BW := stCu BW hB
  replace B3 := stCu B3 hB
  clear hB q0 q1 q2 q3 q4
  go_wp2_with fail
  refine (HI.out _ _ _ _ _ _ _ T9 BW).mono ?_
  rintro r wD ⟨ha, hc, rfl, HH, -, hB⟩
  replace HM := HM.below hB
  replace BW := stCu BW hB
  replace B3 := stCu B3 hB
  clear hB T9
  go_wp2_with fail
  refine (eqIntS_same _ _ _ _ gs _ HH (HW.below B3) hgl).mono ?_
  rintro r wE ⟨rfl, hB⟩
  replace HM := HM.below hB
  replace BW := stCu BW hB
  clear hB HH B3
  go_wp2_with fail
  refine (heldIntS_any _ _ gs.length 1 _ HM (by omega)).mono ?_
  rintro r wh ⟨rfl, hwh⟩
  rw [hwh]
  clear hwh wh
  go_wp2
  go_ret
  exact ⟨rfl, BW⟩

end Go.Proofs.YtekjpbfmiebigaaDoor
