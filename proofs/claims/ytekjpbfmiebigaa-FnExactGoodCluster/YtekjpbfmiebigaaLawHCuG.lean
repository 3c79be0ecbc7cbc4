/-
  The walk of the law FnExactGoodCluster, the contracts of spec.GoodCluster and impl.GoodCluster given: at all that can be read it answers true and leaves what was there as it was. Made by mkwlaw.py.
-/
import Derived.Test.YtekjpbfmiebigaaClu
import Derived.Deep.RegionHeld3
import Derived.WalkMore
namespace Go.Proofs.Ytekjpbfmiebigaa
open Go.RowKit

set_option maxRecDepth 100000 in
set_option maxHeartbeats 4000000 in
theorem lawCuGH (s : Cu) (ok : Bool) (a0 a1 a2 : Option Addr) (c0 c1 c2 : Nat) (w : World) (hs : CuR w s a0 a1 a2) (hL : CuL s)
    (HS0 : CuB s → ∀ (u : World) (b0 b1 b2 : Option Addr) (d0 d1 d2 : Nat), CuR u s b0 b1 b2 → Calls Try.prog 6 #[cuV s b0 d0 b1 d1 b2 d2] u fun e u' => e = .returned (.bool ok) ∧ Below u.heap.size u u')
    (HI0 : CuB s → ∀ (u : World) (b0 b1 b2 : Option Addr) (d0 d1 d2 : Nat), CuR u s b0 b1 b2 → Calls Try.prog 8 #[cuV s b0 d0 b1 d1 b2 d2] u fun e u' => e = .returned (.bool ok) ∧ Below u.heap.size u u') :
    Calls Try.prog 3 #[cuV s a0 c0 a1 c1 a2 c2] w fun r w' => r = .returned (.bool true) ∧ Below w.heap.size w w' := by
  have hT_ok : (ok != ok) = false := by cases ok <;> rfl
  have hr := szCu_range s
  obtain ⟨u0, hu0⟩ : ∃ u0, (w.alloc (.cells #[.int .i64 s.tep, .int .i64 s.tld, .slice a0 s.tst.length c0, .slice a1 s.nodes.length c1, .slice a2 s.acked.length c2] 28)) = u0 := ⟨_, rfl⟩
  have kk : u0.cell? ⟨w.heap.size, 0, none⟩ = some (.int .i64 s.tep) ∧ u0.cell? ⟨w.heap.size, 1, none⟩ = some (.int .i64 s.tld) ∧ u0.cell? ⟨w.heap.size, 2, none⟩ = some (.slice a0 s.tst.length c0) ∧ u0.cell? ⟨w.heap.size, 3, none⟩ = some (.slice a1 s.nodes.length c1) ∧ u0.cell? ⟨w.heap.size, 4, none⟩ = some (.slice a2 s.acked.length c2) := by rw [← hu0]; simp [go_sem]
  have bB : Below w.heap.size w u0 := by rw [← hu0]; exact alCu _ _
  have hs0 := hs.below bB
  have qq := kk
  obtain ⟨q0, q1, q2, q3, q4⟩ := qq
  go_enter Try.func3, Try.ntmps3
  go_wp2_with fail
  clear hu0 hs q0 q1 q2 q3 q4
  refine (szCluster_any s _ _ _ _ _ _ _ hs0 hL).mono ?_
  rintro r w1 ⟨rfl, hB⟩
  have kk1 := cu_keep hB kk
  have hs1 := hs0.below hB
  have BW := stCu bB hB
  obtain ⟨q0, q1, q2, q3, q4⟩ := kk1
  clear kk hs0 hB bB
  by_cases hbig : szCu s < 0
  · go_wp2
    go_ret
    exact ⟨rfl, BW⟩
  have hb : CuB s := szCu_bound (by omega)
  have HS : Hid (∀ (u : World) (b0 b1 b2 : Option Addr) (d0 d1 d2 : Nat), CuR u s b0 b1 b2 → Calls Try.prog 6 #[cuV s b0 d0 b1 d1 b2 d2] u fun e u' => e = .returned (.bool ok) ∧ Below u.heap.size u u') := HS0 hb
  have HI : Hid (∀ (u : World) (b0 b1 b2 : Option Addr) (d0 d1 d2 : Nat), CuR u s b0 b1 b2 → Calls Try.prog 8 #[cuV s b0 d0 b1 d1 b2 d2] u fun e u' => e = .returned (.bool ok) ∧ Below u.heap.size u u') := HI0 hb
  clear HS0 HI0
  go_wp2_with fail
  refine (toCluster_any s _ _ _ _ _ _ _ hs1 hb).mono ?_
  rintro r w2 ⟨b0, b1, b2, rfl, T1, hB⟩
  have kk2 := cu_keep hB ⟨q0, q1, q2, q3, q4⟩
  have hs2 := hs1.below hB
  replace BW := stCu BW hB
  clear q0 q1 q2 q3 q4 hs1 hB
  go_wp2_with fail
  refine (HS.out _ _ _ _ _ _ _ T1).mono ?_
  rintro r w3 ⟨rfl, hB⟩
  have kk3 := cu_keep hB kk2
  have hs3 := hs2.below hB
  replace BW := stCu BW hB
  obtain ⟨q0, q1, q2, q3, q4⟩ := kk3
  clear kk2 hs2 hB T1 HS
  go_wp2_with fail
  refine (toCluster_any s _ _ _ _ _ _ _ hs3 hb).mono ?_
  rintro r w4 ⟨x0, x1, x2, rfl, T2, hB⟩
  have kk4 := cu_keep hB ⟨q0, q1, q2, q3, q4⟩
  have hs4 := hs3.below hB
  replace BW := stCu BW hB
  clear q0 q1 q2 q3 q4 hs3 hB
  obtain ⟨u4, hu4⟩ : ∃ u4, (w4.alloc (.cells #[.int .i64 s.tep, .int .i64 s.tld, .slice x0 s.tst.length s.tst.length, .slice x1 s.nodes.length s.nodes.length, .slice x2 s.acked.length s.acked.length] 35)) = u4 := ⟨_, rfl⟩
  have jj : u4.cell? ⟨w4.heap.size, 0, none⟩ = some (.int .i64 s.tep) ∧ u4.cell? ⟨w4.heap.size, 1, none⟩ = some (.int .i64 s.tld) ∧ u4.cell? ⟨w4.heap.size, 2, none⟩ = some (.slice x0 s.tst.length s.tst.length) ∧ u4.cell? ⟨w4.heap.size, 3, none⟩ = some (.slice x1 s.nodes.length s.nodes.length) ∧ u4.cell? ⟨w4.heap.size, 4, none⟩ = some (.slice x2 s.acked.length s.acked.length) := by rw [← hu4]; simp [go_sem]
  have bB : Below w4.heap.size w4 u4 := by rw [← hu4]; exact alCu _ _
  have jq := jj
  obtain ⟨q0, q1, q2, q3, q4⟩ := jq
  go_wp2_with fail
  clear hu4 q0 q1 q2 q3 q4
  refine (HI.out _ _ _ _ _ _ _ (T2.below bB)).mono ?_
  rintro r w5 ⟨rfl, hB⟩
  have B5 := stCu bB hB
  have kk5 := cu_keep B5 kk4
  have jj5 := cu_keep hB jj
  have hs5 := hs4.below B5
  have T5 := T2.below B5
  have BW5 := stCu BW B5
  clear kk4 jj hs4 T2 BW hB B5 bB HI hr
  go_wp2
  have kz : (w5.cell? ⟨w.heap.size, 0, none⟩ = some (.int .i64 s.tep) ∧ w5.cell? ⟨w.heap.size, 1, none⟩ = some (.int .i64 s.tld) ∧ w5.cell? ⟨w.heap.size, 2, none⟩ = some (.slice a0 s.tst.length c0) ∧ w5.cell? ⟨w.heap.size, 3, none⟩ = some (.slice a1 s.nodes.length c1) ∧ w5.cell? ⟨w.heap.size, 4, none⟩ = some (.slice a2 s.acked.length c2)) ∧ (w5.cell? ⟨w4.heap.size, 0, none⟩ = some (.int .i64 s.tep) ∧ w5.cell? ⟨w4.heap.size, 1, none⟩ = some (.int .i64 s.tld) ∧ w5.cell? ⟨w4.heap.size, 2, none⟩ = some (.slice x0 s.tst.length s.tst.length) ∧ w5.cell? ⟨w4.heap.size, 3, none⟩ = some (.slice x1 s.nodes.length s.nodes.length) ∧ w5.cell? ⟨w4.heap.size, 4, none⟩ = some (.slice x2 s.acked.length s.acked.length)) := ⟨kk5, jj5⟩
  refine wp_region_noPanic ?_
  refine wp_region_held_drew (S := fun w' => (w'.cell? ⟨w.heap.size, 0, none⟩ = some (.int .i64 s.tep) ∧ w'.cell? ⟨w.heap.size, 1, none⟩ = some (.int .i64 s.tld) ∧ w'.cell? ⟨w.heap.size, 2, none⟩ = some (.slice a0 s.tst.length c0) ∧ w'.cell? ⟨w.heap.size, 3, none⟩ = some (.slice a1 s.nodes.length c1) ∧ w'.cell? ⟨w.heap.size, 4, none⟩ = some (.slice a2 s.acked.length c2)) ∧ (w'.cell? ⟨w4.heap.size, 0, none⟩ = some (.int .i64 s.tep) ∧ w'.cell? ⟨w4.heap.size, 1, none⟩ = some (.int .i64 s.tld) ∧ w'.cell? ⟨w4.heap.size, 2, none⟩ = some (.slice x0 s.tst.length s.tst.length) ∧ w'.cell? ⟨w4.heap.size, 3, none⟩ = some (.slice x1 s.nodes.length s.nodes.length) ∧ w'.cell? ⟨w4.heap.size, 4, none⟩ = some (.slice x2 s.acked.length s.acked.length))) (by kernel_rfl) kz (fun hH => ?_)
  refine wpAnyH_take (i := 0) (oi := ⟨_, _, _, _, _, _⟩) (v := ?vz0) rfl (by kernel_rfl) (by kernel_rfl) (by kernel_rfl) (fun _ _ _ h => h) (Or.inl ⟨by rfl, ?yz0⟩) (by assumption) ?rz0
  case yz0 => intro w hSw; (try dsimp only at hSw); go_simp; try with_reducible rfl
  try simp only [Act.put, List.setIfInBounds_toArray, List.set_cons_zero, List.set_cons_succ]
  refine wpAnyH_take (i := 1) (oi := ⟨_, _, _, _, _, _⟩) (v := ?vz1) rfl (by kernel_rfl) (by kernel_rfl) (by kernel_rfl) (fun _ _ _ h => h) (Or.inl ⟨by rfl, ?yz1⟩) (by assumption) ?rz1
  case yz1 => intro w hSw; (try dsimp only at hSw); go_simp; try with_reducible rfl
  try simp only [Act.put, List.setIfInBounds_toArray, List.set_cons_zero, List.set_cons_succ]
  refine wpAnyH_ready (rs := [2]) (by kernel_rfl) (by simp) ?_
  refine AllReadyH.cons (o := ⟨_, _, _, _, _, _⟩) rfl (fun KK hK => ?_) AllReadyH.nil
  go_simp
  refine (toCluster_any s _ _ _ _ _ _ _ (hs5.below (Below.refl _ _).drew) hb).mono ?_
  rintro r w6 ⟨y0, y1, y2, rfl, T6, hB6⟩
  have B6 : Below w5.heap.size w5 w6 := (Below.refl _ _).drew.trans (hB6.mono (by simp))
  have T2' := T5.below B6
  have BW6 := stCu BW5 B6
  have kz6 : (w6.cell? ⟨w.heap.size, 0, none⟩ = some (.int .i64 s.tep) ∧ w6.cell? ⟨w.heap.size, 1, none⟩ = some (.int .i64 s.tld) ∧ w6.cell? ⟨w.heap.size, 2, none⟩ = some (.slice a0 s.tst.length c0) ∧ w6.cell? ⟨w.heap.size, 3, none⟩ = some (.slice a1 s.nodes.length c1) ∧ w6.cell? ⟨w.heap.size, 4, none⟩ = some (.slice a2 s.acked.length c2)) ∧ (w6.cell? ⟨w4.heap.size, 0, none⟩ = some (.int .i64 s.tep) ∧ w6.cell? ⟨w4.heap.size, 1, none⟩ = some (.int .i64 s.tld) ∧ w6.cell? ⟨w4.heap.size, 2, none⟩ = some (.slice x0 s.tst.length s.tst.length) ∧ w6.cell? ⟨w4.heap.size, 3, none⟩ = some (.slice x1 s.nodes.length s.nodes.length) ∧ w6.cell? ⟨w4.heap.size, 4, none⟩ = some (.slice x2 s.acked.length s.acked.length)) := ⟨cu_keep B6 kk5, cu_keep B6 jj5⟩
  clear hB6 B6
  go_wp2_with fail
  refine hK.out _ _ kz6 (fun hH2 => ?_)
  clear hK KK hH
  try simp only [Act.put, List.setIfInBounds_toArray, List.set_cons_zero, List.set_cons_succ]
  refine wpAnyH_ready (rs := [3]) (by kernel_rfl) (by simp) ?_
  refine AllReadyH.cons (o := ⟨_, _, _, _, _, _⟩) rfl (fun KK hK => ?_) AllReadyH.nil
  go_simp
  refine (eqCluster_same s _ _ _ _ _ _ _ _ _ _ _ _ _ T2' T6 hL).mono ?_
  rintro r w7 ⟨rfl, hB7⟩
  have BW7 := stCu BW6 hB7
  have kz7 : (w7.cell? ⟨w.heap.size, 0, none⟩ = some (.int .i64 s.tep) ∧ w7.cell? ⟨w.heap.size, 1, none⟩ = some (.int .i64 s.tld) ∧ w7.cell? ⟨w.heap.size, 2, none⟩ = some (.slice a0 s.tst.length c0) ∧ w7.cell? ⟨w.heap.size, 3, none⟩ = some (.slice a1 s.nodes.length c1) ∧ w7.cell? ⟨w.heap.size, 4, none⟩ = some (.slice a2 s.acked.length c2)) ∧ (w7.cell? ⟨w4.heap.size, 0, none⟩ = some (.int .i64 s.tep) ∧ w7.cell? ⟨w4.heap.size, 1, none⟩ = some (.int .i64 s.tld) ∧ w7.cell? ⟨w4.heap.size, 2, none⟩ = some (.slice x0 s.tst.length s.tst.length) ∧ w7.cell? ⟨w4.heap.size, 3, none⟩ = some (.slice x1 s.nodes.length s.nodes.length) ∧ w7.cell? ⟨w4.heap.size, 4, none⟩ = some (.slice x2 s.acked.length s.acked.length)) := ⟨cu_keep hB7 kz6.1, cu_keep hB7 kz6.2⟩
  clear hB7
  go_wp2_with fail
  refine hK.out _ _ kz7 (fun hH3 => ?_)
  clear hK KK hH2
  try simp only [Act.put, List.setIfInBounds_toArray, List.set_cons_zero, List.set_cons_succ]
  refine wpAnyH_take (i := 4) (oi := ⟨_, _, _, _, _, _⟩) (v := ?vz4) rfl (by kernel_rfl) (by kernel_rfl) (by kernel_rfl) (fun _ _ _ h => h) (Or.inl ⟨by rfl, ?yz4⟩) (by assumption) ?rz4
  case yz4 => intro w hSw; (try dsimp only at hSw); go_simp; try with_reducible rfl
  try simp only [Act.put, List.setIfInBounds_toArray, List.set_cons_zero, List.set_cons_succ]
  refine wpAnyH_done (by kernel_rfl) (NoPanic.normal ?_) _
  go_wp2
  go_ret
  exact ⟨rfl, BW7⟩

end Go.Proofs.Ytekjpbfmiebigaa
