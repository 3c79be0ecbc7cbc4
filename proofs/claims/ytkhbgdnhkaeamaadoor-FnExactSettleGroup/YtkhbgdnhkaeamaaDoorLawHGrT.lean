/-
  The walk of the law FnExactSettleGroup, the contracts of spec.SettleGroup and impl.SettleGroup given: at all that can be read it answers true and leaves what was there as it was. Made by mkwlawt.py.
-/
import Derived.Test.YtkhbgdnhkaeamaaDoorGrpWJ
import Derived.Test.YtkhbgdnhkaeamaaDoorGrpM
import Derived.Deep.RegionHeld3
import Derived.WalkMore
namespace Go.Proofs.YtkhbgdnhkaeamaaDoor
open Go.RowKit

set_option maxRecDepth 100000 in
set_option maxHeartbeats 8000000 in
theorem lawGrTH (s g : Gr) (n : Int) (ok : Bool) (a0 a1 : Option Addr) (c0 c1 : Nat) (w : World) (hs : GrR w s a0 a1) (hL : GrL s) (hz : GrS g) (hLg : GrL g)
    (HS0 : GrB s → ∀ (u : World) (b0 b1 : Option Addr) (d0 d1 : Nat), GrR u s b0 b1 → Calls Tryd.prog 26 #[grV s b0 d0 b1 d1] u fun e u' => ∃ e0 e1 f0 f1, e = .returned (.tuple #[grV g e0 f0 e1 f1, .int .i64 n, .bool ok]) ∧ GrR u' g e0 e1 ∧ Below u.heap.size u u')
    (HI0 : GrB s → ∀ (u : World) (b0 b1 : Option Addr) (d0 d1 : Nat), Below w.heap.size w u → GrR u s b0 b1 → Calls Tryd.prog 27 #[grV s b0 d0 b1 d1] u fun e u' => ∃ e0 e1 f0 f1 r10 k10, e = .returned (.tuple #[grV g e0 f0 e1 f1, .int .i64 n, .bool ok]) ∧ GrO u' u.heap.size g e0 e1 r10 k10 ∧ Below u.heap.size u u') :
    Calls Tryd.prog 6 #[grV s a0 c0 a1 c1] w fun r w' => r = .returned (.bool true) ∧ Below w.heap.size w w' := by
  have hT_n : (n != n) = false := by simp
  have hT_ok : (ok != ok) = false := by cases ok <;> rfl
  have hr := szGr_range s
  obtain ⟨KK, hKK⟩ : ∃ KK : Nat, (RpK g.reps (1 + g.steps.length) g.reps.length) = KK := ⟨_, rfl⟩
  have HKK : Hid ((RpK g.reps (1 + g.steps.length) g.reps.length) = KK) := hKK
  have hKs : KK ≤ 1000000000 := by rw [← hKK]; exact hz.tot 1 (Nat.le_refl _)
  have hm2 : (((KK : Nat) : Int) != ((KK : Nat) : Int)) = false := by simp
  have hp0 : ¬ (((KK : Nat) : Int) < 0) := by omega
  clear hKK
  obtain ⟨u0, hu0⟩ : ∃ u0, (w.alloc (.cells #[.int .i64 s.epoch, .int .i64 s.leader, .slice a0 s.steps.length c0, .int .i64 s.high, .slice a1 s.reps.length c1] 33)) = u0 := ⟨_, rfl⟩
  have kk : u0.cell? ⟨w.heap.size, 0, none⟩ = some (.int .i64 s.epoch) ∧ u0.cell? ⟨w.heap.size, 1, none⟩ = some (.int .i64 s.leader) ∧ u0.cell? ⟨w.heap.size, 2, none⟩ = some (.slice a0 s.steps.length c0) ∧ u0.cell? ⟨w.heap.size, 3, none⟩ = some (.int .i64 s.high) ∧ u0.cell? ⟨w.heap.size, 4, none⟩ = some (.slice a1 s.reps.length c1) := by rw [← hu0]; simp [go_sem]
  have BW : Below w.heap.size w u0 := by rw [← hu0]; exact alGr _ _
  have z0 : w.heap.size < u0.heap.size := by rw [← hu0]; simp
  have qq := kk
  obtain ⟨q0, q1, q2, q3, q4⟩ := qq
  go_enter Tryd.func6, Tryd.ntmps6
  go_wp2_with fail
  clear hu0 q0 q1 q2 q3 q4
  refine (szGroup_any s _ _ _ _ _ (hs.below BW) hL).mono ?_
  rintro r w1 ⟨rfl, hB⟩
  replace kk := gr_keep hB kk
  replace BW := stGr BW hB
  have z1 : w.heap.size < w1.heap.size := by have := hB.size; omega
  obtain ⟨q0, q1, q2, q3, q4⟩ := kk
  clear hB z0
  by_cases hbig : szGr s < 0
  · go_wp2
    go_ret
    exact ⟨rfl, BW⟩
  have hb : GrB s := szGr_bound (by omega)
  have HS : Hid (∀ (u : World) (b0 b1 : Option Addr) (d0 d1 : Nat), GrR u s b0 b1 → Calls Tryd.prog 26 #[grV s b0 d0 b1 d1] u fun e u' => ∃ e0 e1 f0 f1, e = .returned (.tuple #[grV g e0 f0 e1 f1, .int .i64 n, .bool ok]) ∧ GrR u' g e0 e1 ∧ Below u.heap.size u u') := HS0 hb
  have HI : Hid (∀ (u : World) (b0 b1 : Option Addr) (d0 d1 : Nat), Below w.heap.size w u → GrR u s b0 b1 → Calls Tryd.prog 27 #[grV s b0 d0 b1 d1] u fun e u' => ∃ e0 e1 f0 f1 r10 k10, e = .returned (.tuple #[grV g e0 f0 e1 f1, .int .i64 n, .bool ok]) ∧ GrO u' u.heap.size g e0 e1 r10 k10 ∧ Below u.heap.size u u') := HI0 hb
  clear HS0 HI0
  go_wp2_with fail
  refine (toGroup_any s _ _ _ _ _ (hs.below BW) hb).mono ?_
  rintro r w2 ⟨b0, b1, rfl, T1, hB⟩
  have kk2 := gr_keep hB ⟨q0, q1, q2, q3, q4⟩
  replace BW := stGr BW hB
  have z2 : w.heap.size < w2.heap.size := by have := hB.size; omega
  clear q0 q1 q2 q3 q4 hB z1
  go_wp2_with fail
  refine (HS.out _ _ _ _ _ T1).mono ?_
  rintro r w3 ⟨va0, va1, vac0, vac1, rfl, TW, hB⟩
  have kk3 := gr_keep hB kk2
  replace BW := stGr BW hB
  have z3 : w.heap.size < w3.heap.size := by have := hB.size; omega
  clear kk2 hB T1 HS z2
  obtain ⟨uW, huW⟩ : ∃ u, (w3.alloc (.cells #[.int .i64 g.epoch, .int .i64 g.leader, .slice va0 g.steps.length vac0, .int .i64 g.high, .slice va1 g.reps.length vac1] 25)) = u := ⟨_, rfl⟩
  have kv : uW.cell? ⟨w3.heap.size, 0, none⟩ = some (.int .i64 g.epoch) ∧ uW.cell? ⟨w3.heap.size, 1, none⟩ = some (.int .i64 g.leader) ∧ uW.cell? ⟨w3.heap.size, 2, none⟩ = some (.slice va0 g.steps.length vac0) ∧ uW.cell? ⟨w3.heap.size, 3, none⟩ = some (.int .i64 g.high) ∧ uW.cell? ⟨w3.heap.size, 4, none⟩ = some (.slice va1 g.reps.length vac1) := by rw [← huW]; simp [go_sem]
  have bW : Below w3.heap.size w3 uW := by rw [← huW]; exact alGr _ _
  have zW : uW.heap.size = w3.heap.size + 1 := by rw [← huW]; simp
  have ZW : Hid (uW.heap.size = w3.heap.size + 1) := zW
  clear zW
  replace kk3 := gr_keep bW kk3
  replace BW := stGr BW bW
  have B3 : Below w3.heap.size w3 uW := bW
  obtain ⟨q0, q1, q2, q3, q4⟩ := kk3
  go_wp2_with fail
  clear huW bW
  refine (toGroup_wk s _ _ _ _ _ (hs.below BW) hb).mono ?_
  rintro r w4 ⟨x0, x1, rfl, T2, V2, hB⟩
  have kk4 := gr_keep hB ⟨q0, q1, q2, q3, q4⟩
  replace kv := gr_keep hB kv
  replace BW := stGr BW hB
  replace B3 := stGr B3 hB
  have z4 : uW.heap.size ≤ w4.heap.size := hB.size
  clear q0 q1 q2 q3 q4 hB
  obtain ⟨u4, hu4⟩ : ∃ u4, (w4.alloc (.cells #[.int .i64 s.epoch, .int .i64 s.leader, .slice x0 s.steps.length s.steps.length, .int .i64 s.high, .slice x1 s.reps.length s.reps.length] 25)) = u4 := ⟨_, rfl⟩
  have jj : u4.cell? ⟨w4.heap.size, 0, none⟩ = some (.int .i64 s.epoch) ∧ u4.cell? ⟨w4.heap.size, 1, none⟩ = some (.int .i64 s.leader) ∧ u4.cell? ⟨w4.heap.size, 2, none⟩ = some (.slice x0 s.steps.length s.steps.length) ∧ u4.cell? ⟨w4.heap.size, 3, none⟩ = some (.int .i64 s.high) ∧ u4.cell? ⟨w4.heap.size, 4, none⟩ = some (.slice x1 s.reps.length s.reps.length) := by rw [← hu4]; simp [go_sem]
  have bB : Below w4.heap.size w4 u4 := by rw [← hu4]; exact alGr _ _
  have Zu : Hid (u4.heap.size = w4.heap.size + 1) := by show _ = _; rw [← hu4]; simp
  replace kk4 := gr_keep bB kk4
  replace kv := gr_keep bB kv
  replace BW := stGr BW bB
  replace B3 := stGr B3 bB
  replace T2 := T2.below bB
  replace V2 := V2.below bB
  have jq := jj
  obtain ⟨q0, q1, q2, q3, q4⟩ := jq
  go_wp2_with fail
  clear hu4 bB q0 q1 q2 q3 q4
  refine (HI.out _ _ _ _ _ BW T2).mono ?_
  rintro r w5 ⟨ga0, ga1, gac0, gac1, r10, k10, rfl, HO, hB⟩
  have lG : ∀ b, GrIn ga0 ga1 g r10 b → u4.heap.size ≤ b ∧ b < w5.heap.size := fun b h => HO.lt h
  have z5 : u4.heap.size ≤ w5.heap.size := hB.size
  replace kk4 := gr_keep hB kk4
  replace kv := gr_keep hB kv
  replace jj := gr_keep hB jj
  replace T2 := T2.below hB
  replace V2 := V2.below hB
  replace BW := stGr BW hB
  replace B3 := stGr B3 hB
  clear hB hr
  obtain ⟨u5, hu5⟩ : ∃ u, (w5.alloc (.cells #[.int .i64 g.epoch, .int .i64 g.leader, .slice ga0 g.steps.length gac0, .int .i64 g.high, .slice ga1 g.reps.length gac1] 25)) = u := ⟨_, rfl⟩
  have kg : u5.cell? ⟨w5.heap.size, 0, none⟩ = some (.int .i64 g.epoch) ∧ u5.cell? ⟨w5.heap.size, 1, none⟩ = some (.int .i64 g.leader) ∧ u5.cell? ⟨w5.heap.size, 2, none⟩ = some (.slice ga0 g.steps.length gac0) ∧ u5.cell? ⟨w5.heap.size, 3, none⟩ = some (.int .i64 g.high) ∧ u5.cell? ⟨w5.heap.size, 4, none⟩ = some (.slice ga1 g.reps.length gac1) := by rw [← hu5]; simp [go_sem]
  have bu : Below w5.heap.size w5 u5 := by rw [← hu5]; exact alGr _ _
  have Zg : Hid (u5.heap.size = w5.heap.size + 1) := by show _ = _; rw [← hu5]; simp
  replace kk4 := gr_keep bu kk4
  replace kv := gr_keep bu kv
  replace jj := gr_keep bu jj
  replace T2 := T2.below bu
  replace V2 := V2.below bu
  replace HO := HO.below bu
  replace BW := stGr BW bu
  replace B3 := stGr B3 bu
  have kq := kv
  obtain ⟨q0, q1, q2, q3, q4⟩ := kq
  have kq := kg
  obtain ⟨j0, j1, j2, j3, j4⟩ := kq
  go_wp2_with fail
  clear hu5 bu q0 q1 q2 q3 q4 j0 j1 j2 j3 j4
  refine (eqGroup_same g _ _ _ _ _ _ _ _ _ (HO.reads hz) (TW.below B3) hLg).mono ?_
  rintro r w6 ⟨rfl, hB⟩
  have z6 : u5.heap.size ≤ w6.heap.size := hB.size
  replace kk4 := gr_keep hB kk4
  replace kv := gr_keep hB kv
  replace jj := gr_keep hB jj
  replace kg := gr_keep hB kg
  replace T2 := T2.below hB
  replace V2 := V2.below hB
  replace HO := HO.below hB
  replace BW := stGr BW hB
  replace B3 := stGr B3 hB
  clear hB
  go_wp2
  have kz : (w6.drew.cell? ⟨w.heap.size, 0, none⟩ = some (.int .i64 s.epoch) ∧ w6.drew.cell? ⟨w.heap.size, 1, none⟩ = some (.int .i64 s.leader) ∧ w6.drew.cell? ⟨w.heap.size, 2, none⟩ = some (.slice a0 s.steps.length c0) ∧ w6.drew.cell? ⟨w.heap.size, 3, none⟩ = some (.int .i64 s.high) ∧ w6.drew.cell? ⟨w.heap.size, 4, none⟩ = some (.slice a1 s.reps.length c1)) ∧ (w6.drew.cell? ⟨w4.heap.size, 0, none⟩ = some (.int .i64 s.epoch) ∧ w6.drew.cell? ⟨w4.heap.size, 1, none⟩ = some (.int .i64 s.leader) ∧ w6.drew.cell? ⟨w4.heap.size, 2, none⟩ = some (.slice x0 s.steps.length s.steps.length) ∧ w6.drew.cell? ⟨w4.heap.size, 3, none⟩ = some (.int .i64 s.high) ∧ w6.drew.cell? ⟨w4.heap.size, 4, none⟩ = some (.slice x1 s.reps.length s.reps.length)) := ⟨gr_keep (Below.refl _ _).drew kk4, gr_keep (Below.refl _ _).drew jj⟩
  have hDr : Below w6.heap.size w6 w6.drew := (Below.refl _ _).drew
  refine wp_region_noPanic ?_
  refine wp_region_held_drew (S := fun w' => (w'.cell? ⟨w.heap.size, 0, none⟩ = some (.int .i64 s.epoch) ∧ w'.cell? ⟨w.heap.size, 1, none⟩ = some (.int .i64 s.leader) ∧ w'.cell? ⟨w.heap.size, 2, none⟩ = some (.slice a0 s.steps.length c0) ∧ w'.cell? ⟨w.heap.size, 3, none⟩ = some (.int .i64 s.high) ∧ w'.cell? ⟨w.heap.size, 4, none⟩ = some (.slice a1 s.reps.length c1)) ∧ (w'.cell? ⟨w4.heap.size, 0, none⟩ = some (.int .i64 s.epoch) ∧ w'.cell? ⟨w4.heap.size, 1, none⟩ = some (.int .i64 s.leader) ∧ w'.cell? ⟨w4.heap.size, 2, none⟩ = some (.slice x0 s.steps.length s.steps.length) ∧ w'.cell? ⟨w4.heap.size, 3, none⟩ = some (.int .i64 s.high) ∧ w'.cell? ⟨w4.heap.size, 4, none⟩ = some (.slice x1 s.reps.length s.reps.length))) (by kernel_rfl) kz (fun hH => ?_)
  refine wpAnyH_take (i := 0) (oi := ⟨_, _, _, _, _, _⟩) (v := ?vz0) rfl (by kernel_rfl) (by kernel_rfl) (by kernel_rfl) (fun _ _ _ h => h) (Or.inl ⟨by rfl, ?yz0⟩) (by assumption) ?rz0
  case yz0 => intro w hSw; (try dsimp only at hSw); go_simp; try with_reducible rfl
  try simp only [Act.put, List.setIfInBounds_toArray, List.set_cons_zero, List.set_cons_succ]
  refine wpAnyH_take (i := 1) (oi := ⟨_, _, _, _, _, _⟩) (v := ?vz1) rfl (by kernel_rfl) (by kernel_rfl) (by kernel_rfl) (fun _ _ _ h => h) (Or.inl ⟨by rfl, ?yz1⟩) (by assumption) ?rz1
  case yz1 => intro w hSw; (try dsimp only at hSw); go_simp; try with_reducible rfl
  try simp only [Act.put, List.setIfInBounds_toArray, List.set_cons_zero, List.set_cons_succ]
  refine wpAnyH_ready (rs := [2]) (by kernel_rfl) (by simp) ?_
  refine AllReadyH.cons (o := ⟨_, _, _, _, _, _⟩) rfl (fun KK hK => ?_) AllReadyH.nil
  go_simp
  refine (toGroup_any s _ _ _ _ _ ((hs.below BW).below hDr) hb).mono ?_
  rintro r w7 ⟨y0, y1, rfl, T6, hB6⟩
  have B6 : Below w6.heap.size w6 w7 := hDr.trans (hB6.mono (by simp))
  have z7 : w6.heap.size ≤ w7.heap.size := B6.size
  replace kk4 := gr_keep B6 kk4
  replace kv := gr_keep B6 kv
  replace jj := gr_keep B6 jj
  replace kg := gr_keep B6 kg
  replace T2 := T2.below B6
  replace V2 := V2.below B6
  replace HO := HO.below B6
  replace BW := stGr BW B6
  replace B3 := stGr B3 B6
  have kz7 : (w7.cell? ⟨w.heap.size, 0, none⟩ = some (.int .i64 s.epoch) ∧ w7.cell? ⟨w.heap.size, 1, none⟩ = some (.int .i64 s.leader) ∧ w7.cell? ⟨w.heap.size, 2, none⟩ = some (.slice a0 s.steps.length c0) ∧ w7.cell? ⟨w.heap.size, 3, none⟩ = some (.int .i64 s.high) ∧ w7.cell? ⟨w.heap.size, 4, none⟩ = some (.slice a1 s.reps.length c1)) ∧ (w7.cell? ⟨w4.heap.size, 0, none⟩ = some (.int .i64 s.epoch) ∧ w7.cell? ⟨w4.heap.size, 1, none⟩ = some (.int .i64 s.leader) ∧ w7.cell? ⟨w4.heap.size, 2, none⟩ = some (.slice x0 s.steps.length s.steps.length) ∧ w7.cell? ⟨w4.heap.size, 3, none⟩ = some (.int .i64 s.high) ∧ w7.cell? ⟨w4.heap.size, 4, none⟩ = some (.slice x1 s.reps.length s.reps.length)) := ⟨kk4, jj⟩
  clear hB6 B6
  go_wp2_with fail
  refine hK.out _ _ kz7 (fun hH2 => ?_)
  clear hK KK hH
  try simp only [Act.put, List.setIfInBounds_toArray, List.set_cons_zero, List.set_cons_succ]
  refine wpAnyH_ready (rs := [3]) (by kernel_rfl) (by simp) ?_
  refine AllReadyH.cons (o := ⟨_, _, _, _, _, _⟩) rfl (fun KK hK => ?_) AllReadyH.nil
  go_simp
  refine (eqGroup_same s _ _ _ _ _ _ _ _ _ T2 T6 hL).mono ?_
  rintro r w8 ⟨rfl, hB7⟩
  have z8 : w7.heap.size ≤ w8.heap.size := hB7.size
  replace kk4 := gr_keep hB7 kk4
  replace kv := gr_keep hB7 kv
  replace jj := gr_keep hB7 jj
  replace kg := gr_keep hB7 kg
  replace T2 := T2.below hB7
  replace V2 := V2.below hB7
  replace HO := HO.below hB7
  replace BW := stGr BW hB7
  replace B3 := stGr B3 hB7
  have kz8 : (w8.cell? ⟨w.heap.size, 0, none⟩ = some (.int .i64 s.epoch) ∧ w8.cell? ⟨w.heap.size, 1, none⟩ = some (.int .i64 s.leader) ∧ w8.cell? ⟨w.heap.size, 2, none⟩ = some (.slice a0 s.steps.length c0) ∧ w8.cell? ⟨w.heap.size, 3, none⟩ = some (.int .i64 s.high) ∧ w8.cell? ⟨w.heap.size, 4, none⟩ = some (.slice a1 s.reps.length c1)) ∧ (w8.cell? ⟨w4.heap.size, 0, none⟩ = some (.int .i64 s.epoch) ∧ w8.cell? ⟨w4.heap.size, 1, none⟩ = some (.int .i64 s.leader) ∧ w8.cell? ⟨w4.heap.size, 2, none⟩ = some (.slice x0 s.steps.length s.steps.length) ∧ w8.cell? ⟨w4.heap.size, 3, none⟩ = some (.int .i64 s.high) ∧ w8.cell? ⟨w4.heap.size, 4, none⟩ = some (.slice x1 s.reps.length s.reps.length)) := ⟨kk4, jj⟩
  clear hB7
  go_wp2_with fail
  refine hK.out _ _ kz8 (fun hH3 => ?_)
  clear hK KK hH2
  try simp only [Act.put, List.setIfInBounds_toArray, List.set_cons_zero, List.set_cons_succ]
  refine wpAnyH_take (i := 4) (oi := ⟨_, _, _, _, _, _⟩) (v := ?vz4) rfl (by kernel_rfl) (by kernel_rfl) (by kernel_rfl) (fun _ _ _ h => h) (Or.inl ⟨by rfl, ?yz4⟩) (by assumption) ?rz4
  case yz4 => intro w hSw; (try dsimp only at hSw); go_simp; try with_reducible rfl
  try simp only [Act.put, List.setIfInBounds_toArray, List.set_cons_zero, List.set_cons_succ]
  refine wpAnyH_done (by kernel_rfl) (NoPanic.normal ?_) _
  clear T6 T2 kz kz7 kz8 hH3
  have jq := jj
  obtain ⟨q0, q1, q2, q3, q4⟩ := jq
  go_wp2_with fail
  clear q0 q1 q2 q3 q4
  have zz := ZW.out
  have zz4 := Zu.out
  have zz5 := Zg.out
  refine (markGroup_wk s uW.heap.size w4.heap.size 1 _ _ _ _ _ V2 hb (by omega) (by omega) (by omega)).mono ?_
  rintro r w9 ⟨k9, rfl, X⟩
  have hk9 : ¬ ((k9 : Int) < 0) := by omega
  have kk9 : w9.cell? ⟨w.heap.size, 0, none⟩ = some (.int .i64 s.epoch) ∧ w9.cell? ⟨w.heap.size, 1, none⟩ = some (.int .i64 s.leader) ∧ w9.cell? ⟨w.heap.size, 2, none⟩ = some (.slice a0 s.steps.length c0) ∧ w9.cell? ⟨w.heap.size, 3, none⟩ = some (.int .i64 s.high) ∧ w9.cell? ⟨w.heap.size, 4, none⟩ = some (.slice a1 s.reps.length c1) := ⟨X.cell (.inl (by omega)) kk4.1, X.cell (.inl (by omega)) kk4.2.1, X.cell (.inl (by omega)) kk4.2.2.1, X.cell (.inl (by omega)) kk4.2.2.2.1, X.cell (.inl (by omega)) kk4.2.2.2.2⟩
  have kv9 : w9.cell? ⟨w3.heap.size, 0, none⟩ = some (.int .i64 g.epoch) ∧ w9.cell? ⟨w3.heap.size, 1, none⟩ = some (.int .i64 g.leader) ∧ w9.cell? ⟨w3.heap.size, 2, none⟩ = some (.slice va0 g.steps.length vac0) ∧ w9.cell? ⟨w3.heap.size, 3, none⟩ = some (.int .i64 g.high) ∧ w9.cell? ⟨w3.heap.size, 4, none⟩ = some (.slice va1 g.reps.length vac1) := ⟨X.cell (.inl (by omega)) kv.1, X.cell (.inl (by omega)) kv.2.1, X.cell (.inl (by omega)) kv.2.2.1, X.cell (.inl (by omega)) kv.2.2.2.1, X.cell (.inl (by omega)) kv.2.2.2.2⟩
  have kg9 : w9.cell? ⟨w5.heap.size, 0, none⟩ = some (.int .i64 g.epoch) ∧ w9.cell? ⟨w5.heap.size, 1, none⟩ = some (.int .i64 g.leader) ∧ w9.cell? ⟨w5.heap.size, 2, none⟩ = some (.slice ga0 g.steps.length gac0) ∧ w9.cell? ⟨w5.heap.size, 3, none⟩ = some (.int .i64 g.high) ∧ w9.cell? ⟨w5.heap.size, 4, none⟩ = some (.slice ga1 g.reps.length gac1) := ⟨X.cell (.inr (by omega)) kg.1, X.cell (.inr (by omega)) kg.2.1, X.cell (.inr (by omega)) kg.2.2.1, X.cell (.inr (by omega)) kg.2.2.2.1, X.cell (.inr (by omega)) kg.2.2.2.2⟩
  replace HO := HO.of_block (fun b h => X.block (.inr (by have := lG b h; omega)) (by have := (HO.lt h).2; omega))
  replace BW := BW.trans (X.bel.mono (by omega))
  replace B3 := B3.trans (X.bel.mono (by omega))
  have z9 : w8.heap.size ≤ w9.heap.size := X.bel.size
  clear X V2 kk4 kv jj kg zz zz4 zz5
  have kq := kv9
  obtain ⟨q0, q1, q2, q3, q4⟩ := kq
  have kq := kg9
  obtain ⟨j0, j1, j2, j3, j4⟩ := kq
  go_wp2_with fail
  clear q0 q1 q2 q3 q4 j0 j1 j2 j3 j4
  refine (eqGroup_same g _ _ _ _ _ _ _ _ _ (HO.reads hz) (TW.below B3) hLg).mono ?_
  rintro r wA ⟨rfl, hB⟩
  have zA : w9.heap.size ≤ wA.heap.size := hB.size
  replace kk9 := gr_keep hB kk9
  replace kv9 := gr_keep hB kv9
  replace kg9 := gr_keep hB kg9
  replace HO := HO.below hB
  replace BW := stGr BW hB
  replace B3 := stGr B3 hB
  clear hB
  have kq := kg9
  obtain ⟨j0, j1, j2, j3, j4⟩ := kq
  go_wp2_with fail
  clear j0 j1 j2 j3 j4
  have zz := ZW.out
  have zz4 := Zu.out
  have zz5 := Zg.out
  refine (markGroup_any g 1 u4.heap.size _ _ _ _ _ _ _ HO hz (Nat.le_refl _) (by omega)).mono ?_
  rintro r wB ⟨hr, HH, hB, hO⟩
  rw [HKK.out] at hr
  subst hr
  have kkB : wB.cell? ⟨w.heap.size, 0, none⟩ = some (.int .i64 s.epoch) ∧ wB.cell? ⟨w.heap.size, 1, none⟩ = some (.int .i64 s.leader) ∧ wB.cell? ⟨w.heap.size, 2, none⟩ = some (.slice a0 s.steps.length c0) ∧ wB.cell? ⟨w.heap.size, 3, none⟩ = some (.int .i64 s.high) ∧ wB.cell? ⟨w.heap.size, 4, none⟩ = some (.slice a1 s.reps.length c1) := ⟨(hB.cell (p := ⟨w.heap.size, 0, none⟩) (by show w.heap.size < _; omega)).trans kk9.1, (hB.cell (p := ⟨w.heap.size, 1, none⟩) (by show w.heap.size < _; omega)).trans kk9.2.1, (hB.cell (p := ⟨w.heap.size, 2, none⟩) (by show w.heap.size < _; omega)).trans kk9.2.2.1, (hB.cell (p := ⟨w.heap.size, 3, none⟩) (by show w.heap.size < _; omega)).trans kk9.2.2.2.1, (hB.cell (p := ⟨w.heap.size, 4, none⟩) (by show w.heap.size < _; omega)).trans kk9.2.2.2.2⟩
  have kvB : wB.cell? ⟨w3.heap.size, 0, none⟩ = some (.int .i64 g.epoch) ∧ wB.cell? ⟨w3.heap.size, 1, none⟩ = some (.int .i64 g.leader) ∧ wB.cell? ⟨w3.heap.size, 2, none⟩ = some (.slice va0 g.steps.length vac0) ∧ wB.cell? ⟨w3.heap.size, 3, none⟩ = some (.int .i64 g.high) ∧ wB.cell? ⟨w3.heap.size, 4, none⟩ = some (.slice va1 g.reps.length vac1) := ⟨(hB.cell (p := ⟨w3.heap.size, 0, none⟩) (by show w3.heap.size < _; omega)).trans kv9.1, (hB.cell (p := ⟨w3.heap.size, 1, none⟩) (by show w3.heap.size < _; omega)).trans kv9.2.1, (hB.cell (p := ⟨w3.heap.size, 2, none⟩) (by show w3.heap.size < _; omega)).trans kv9.2.2.1, (hB.cell (p := ⟨w3.heap.size, 3, none⟩) (by show w3.heap.size < _; omega)).trans kv9.2.2.2.1, (hB.cell (p := ⟨w3.heap.size, 4, none⟩) (by show w3.heap.size < _; omega)).trans kv9.2.2.2.2⟩
  have kgB : wB.cell? ⟨w5.heap.size, 0, none⟩ = some (.int .i64 g.epoch) ∧ wB.cell? ⟨w5.heap.size, 1, none⟩ = some (.int .i64 g.leader) ∧ wB.cell? ⟨w5.heap.size, 2, none⟩ = some (.slice ga0 g.steps.length gac0) ∧ wB.cell? ⟨w5.heap.size, 3, none⟩ = some (.int .i64 g.high) ∧ wB.cell? ⟨w5.heap.size, 4, none⟩ = some (.slice ga1 g.reps.length gac1) := by
    obtain ⟨q0, q1, q2, q3, q4⟩ := kg9
    exact ⟨(World.cell?_of_block (a := ⟨w5.heap.size, 0, none⟩) (hO _ (lt_of_cell q0) (fun h => by have := lG w5.heap.size h; omega))).trans q0, (World.cell?_of_block (a := ⟨w5.heap.size, 1, none⟩) (hO _ (lt_of_cell q1) (fun h => by have := lG w5.heap.size h; omega))).trans q1, (World.cell?_of_block (a := ⟨w5.heap.size, 2, none⟩) (hO _ (lt_of_cell q2) (fun h => by have := lG w5.heap.size h; omega))).trans q2, (World.cell?_of_block (a := ⟨w5.heap.size, 3, none⟩) (hO _ (lt_of_cell q3) (fun h => by have := lG w5.heap.size h; omega))).trans q3, (World.cell?_of_block (a := ⟨w5.heap.size, 4, none⟩) (hO _ (lt_of_cell q4) (fun h => by have := lG w5.heap.size h; omega))).trans q4⟩
  replace BW := BW.trans (hB.mono (by omega))
  replace B3 := B3.trans (hB.mono (by omega))
  clear hB hO HO lG kk9 kv9 kg9 zz zz4 zz5
  have kq := kgB
  obtain ⟨j0, j1, j2, j3, j4⟩ := kq
  go_wp2_with fail
  clear j0 j1 j2 j3 j4
  refine (heldGroup_any g 1 u4.heap.size _ _ _ _ _ _ _ HH hz (Nat.le_refl _)).mono ?_
  rintro r wC ⟨hr, hB⟩
  rw [HKK.out] at hr
  subst hr
  replace kkB := gr_keep hB kkB
  replace kvB := gr_keep hB kvB
  replace kgB := gr_keep hB kgB
  replace HH := HH.below hB
  replace BW := stGr BW hB
  replace B3 := stGr B3 hB
  clear hB
  have kq := kkB
  obtain ⟨q0, q1, q2, q3, q4⟩ := kq
  go_wp2_with fail
  clear q0 q1 q2 q3 q4
  refine (toGroup_any s _ _ _ _ _ (hs.below BW) hb).mono ?_
  rintro r wD ⟨t0, t1, rfl, T9, hB⟩
  replace kkB := gr_keep hB kkB
  replace kvB := gr_keep hB kvB
  replace kgB := gr_keep hB kgB
  replace HH := HH.below hB
  replace BW := stGr BW hB
  replace B3 := stGr B3 hB
  clear hB
  go_wp2_with fail
  refine (HI.out _ _ _ _ _ BW T9).mono ?_
  rintro r wE ⟨ha0, ha1, hac0, hac1, _, _, rfl, HD, hB⟩
  replace kkB := gr_keep hB kkB
  replace kvB := gr_keep hB kvB
  replace kgB := gr_keep hB kgB
  replace HH := HH.below hB
  replace BW := stGr BW hB
  replace B3 := stGr B3 hB
  have TD := HD.reads hz
  clear hB HD T9
  obtain ⟨uE, huE⟩ : ∃ u, (wE.alloc (.cells #[.int .i64 g.epoch, .int .i64 g.leader, .slice ha0 g.steps.length hac0, .int .i64 g.high, .slice ha1 g.reps.length hac1] 25)) = u := ⟨_, rfl⟩
  have kh : uE.cell? ⟨wE.heap.size, 0, none⟩ = some (.int .i64 g.epoch) ∧ uE.cell? ⟨wE.heap.size, 1, none⟩ = some (.int .i64 g.leader) ∧ uE.cell? ⟨wE.heap.size, 2, none⟩ = some (.slice ha0 g.steps.length hac0) ∧ uE.cell? ⟨wE.heap.size, 3, none⟩ = some (.int .i64 g.high) ∧ uE.cell? ⟨wE.heap.size, 4, none⟩ = some (.slice ha1 g.reps.length hac1) := by rw [← huE]; simp [go_sem]
  have buE : Below wE.heap.size wE uE := by rw [← huE]; exact alGr _ _
  replace kkB := gr_keep buE kkB
  replace kvB := gr_keep buE kvB
  replace kgB := gr_keep buE kgB
  replace HH := HH.below buE
  replace BW := stGr BW buE
  replace B3 := stGr B3 buE
  replace TD := TD.below buE
  have kq := kvB
  obtain ⟨q0, q1, q2, q3, q4⟩ := kq
  have kq := kh
  obtain ⟨j0, j1, j2, j3, j4⟩ := kq
  go_wp2_with fail
  clear huE buE q0 q1 q2 q3 q4 j0 j1 j2 j3 j4
  refine (eqGroup_same g _ _ _ _ _ _ _ _ _ TD (TW.below B3) hLg).mono ?_
  rintro r wF ⟨rfl, hB⟩
  replace kkB := gr_keep hB kkB
  replace kvB := gr_keep hB kvB
  replace kgB := gr_keep hB kgB
  replace HH := HH.below hB
  replace BW := stGr BW hB
  replace B3 := stGr B3 hB
  clear hB TD kh kvB kkB
  obtain ⟨j0, j1, j2, j3, j4⟩ := kgB
  go_wp2_with fail
  clear j0 j1 j2 j3 j4
  refine (heldGroup_any g 1 u4.heap.size _ _ _ _ _ _ _ HH hz (Nat.le_refl _)).mono ?_
  rintro r wG ⟨hr, hB⟩
  rw [HKK.out] at hr
  subst hr
  replace BW := stGr BW hB
  clear hB HH
  go_wp2
  go_ret
  exact ⟨rfl, BW⟩

end Go.Proofs.YtkhbgdnhkaeamaaDoor
