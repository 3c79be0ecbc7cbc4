/-
  The walk of the law FnExactNewCluster, the contracts of spec.NewCluster and impl.NewCluster given: at all that can be read it answers true and leaves what was there as it was. Made by mkwlaw.py.
-/
import Derived.Test.YtekjpbfmiebigaaDoorCluM
import Derived.WalkMore
namespace Go.Proofs.YtekjpbfmiebigaaDoor
open Go.RowKit

set_option maxRecDepth 100000 in
set_option maxHeartbeats 8000000 in
theorem lawCuNHd (z1 : Int) (s : Cu) (ok : Bool) (w : World) (hz : CuS s) (hL : CuL s)
    (HS0 : ∀ (u : World), Calls Tryd.prog 5 #[.int .i64 z1] u fun e u' => ∃ a0 a1 a2 ac0 ac1 ac2, e = .returned (.tuple #[cuV s a0 ac0 a1 ac1 a2 ac2, .bool ok]) ∧ CuR u' s a0 a1 a2 ∧ Below u.heap.size u u')
    (HI0 : ∀ (u : World), Below w.heap.size w u → Calls Tryd.prog 6 #[.int .i64 z1] u fun e u' => ∃ a0 a1 a2 ac0 ac1 ac2 r12 r13 r14 k12 k13 k14, e = .returned (.tuple #[cuV s a0 ac0 a1 ac1 a2 ac2, .bool ok]) ∧ CuO u' u.heap.size s a0 a1 a2 r12 r13 r14 k12 k13 k14 ∧ Below u.heap.size u u') :
    Calls Tryd.prog 3 #[.int .i64 z1] w fun r w' => r = .returned (.bool true) ∧ Below w.heap.size w w' := by
  have hT : (ok != ok) = false := by cases ok <;> rfl
  have HS : Hid (∀ (u : World), Calls Tryd.prog 5 #[.int .i64 z1] u fun e u' => ∃ a0 a1 a2 ac0 ac1 ac2, e = .returned (.tuple #[cuV s a0 ac0 a1 ac1 a2 ac2, .bool ok]) ∧ CuR u' s a0 a1 a2 ∧ Below u.heap.size u u') := HS0
  have HI : Hid (∀ (u : World), Below w.heap.size w u → Calls Tryd.prog 6 #[.int .i64 z1] u fun e u' => ∃ a0 a1 a2 ac0 ac1 ac2 r12 r13 r14 k12 k13 k14, e = .returned (.tuple #[cuV s a0 ac0 a1 ac1 a2 ac2, .bool ok]) ∧ CuO u' u.heap.size s a0 a1 a2 r12 r13 r14 k12 k13 k14 ∧ Below u.heap.size u u') := HI0
  clear HS0 HI0
  have BW : Below w.heap.size w w := Below.refl _ _
  obtain ⟨KK, hKK⟩ : ∃ KK : Nat, ((NdK s.nodes (1 + s.tst.length) s.nodes.length) + 2 * s.acked.length) = KK := ⟨_, rfl⟩
  have HKK : Hid (((NdK s.nodes (1 + s.tst.length) s.nodes.length) + 2 * s.acked.length) = KK) := hKK
  have hKs : KK ≤ 1000000000 := by rw [← hKK]; exact hz.tot 1 (Nat.le_refl _)
  have hm2 : (((KK : Nat) : Int) != ((KK : Nat) : Int)) = false := by simp
  have hp0 : ¬ (((KK : Nat) : Int) < 0) := by omega
  clear hKK
  go_enter Tryd.func3, Tryd.ntmps3
  go_wp2_with fail
  refine (HS.out _ ).mono ?_
  rintro r w1 ⟨va0, va1, va2, vac0, vac1, vac2, rfl, TW, hB⟩
  replace BW := stCu BW hB
  have zw : w.heap.size ≤ w1.heap.size := BW.size
  clear hB HS
  obtain ⟨u1, hu1⟩ : ∃ u, (w1.alloc (.cells #[.int .i64 s.tep, .int .i64 s.tld, .slice va0 s.tst.length vac0, .slice va1 s.nodes.length vac1, .slice va2 s.acked.length vac2] 28)) = u := ⟨_, rfl⟩
  have kv : u1.cell? ⟨w1.heap.size, 0, none⟩ = some (.int .i64 s.tep) ∧ u1.cell? ⟨w1.heap.size, 1, none⟩ = some (.int .i64 s.tld) ∧ u1.cell? ⟨w1.heap.size, 2, none⟩ = some (.slice va0 s.tst.length vac0) ∧ u1.cell? ⟨w1.heap.size, 3, none⟩ = some (.slice va1 s.nodes.length vac1) ∧ u1.cell? ⟨w1.heap.size, 4, none⟩ = some (.slice va2 s.acked.length vac2) := by rw [← hu1]; simp [go_sem]
  have bu1 : Below w1.heap.size w1 u1 := by rw [← hu1]; exact alCu _ _
  have zu1 : u1.heap.size = w1.heap.size + 1 := by rw [← hu1]; simp
  replace BW := stCu BW bu1
  have B1 : Below w1.heap.size w1 u1 := bu1
  have kq := kv
  obtain ⟨q0, q1, q2, q3, q4⟩ := kq
  have zx : w1.heap.size + 1 ≤ u1.heap.size := by omega
  clear kv
  go_wp2_with fail
  clear hu1
  refine (HI.out _ BW).mono ?_
  rintro r w3 ⟨ga0, ga1, ga2, gac0, gac1, gac2, r12, r13, r14, k12, k13, k14, rfl, HO, hB⟩
  have kv3 := cu_keep hB ⟨q0, q1, q2, q3, q4⟩
  replace BW := stCu BW hB
  replace B1 := stCu B1 hB
  have lG : ∀ b, CuIn ga0 ga1 ga2 s r12 r13 r14 b → u1.heap.size ≤ b ∧ b < w3.heap.size := fun b h => HO.lt h
  have zg : u1.heap.size ≤ w3.heap.size := hB.size
  clear hB q0 q1 q2 q3 q4
  obtain ⟨u3, hu3⟩ : ∃ u, (w3.alloc (.cells #[.int .i64 s.tep, .int .i64 s.tld, .slice ga0 s.tst.length gac0, .slice ga1 s.nodes.length gac1, .slice ga2 s.acked.length gac2] 28)) = u := ⟨_, rfl⟩
  have kg : u3.cell? ⟨w3.heap.size, 0, none⟩ = some (.int .i64 s.tep) ∧ u3.cell? ⟨w3.heap.size, 1, none⟩ = some (.int .i64 s.tld) ∧ u3.cell? ⟨w3.heap.size, 2, none⟩ = some (.slice ga0 s.tst.length gac0) ∧ u3.cell? ⟨w3.heap.size, 3, none⟩ = some (.slice ga1 s.nodes.length gac1) ∧ u3.cell? ⟨w3.heap.size, 4, none⟩ = some (.slice ga2 s.acked.length gac2) := by rw [← hu3]; simp [go_sem]
  have bu3 : Below w3.heap.size w3 u3 := by rw [← hu3]; exact alCu _ _
  have zu3 : u3.heap.size = w3.heap.size + 1 := by rw [← hu3]; simp
  replace BW := stCu BW bu3
  replace B1 := stCu B1 bu3
  replace kv3 := cu_keep bu3 kv3
  replace HO := HO.below bu3
  have kq := kv3
  obtain ⟨q0, q1, q2, q3, q4⟩ := kq
  have kq := kg
  obtain ⟨j0, j1, j2, j3, j4⟩ := kq
  go_wp2_with fail
  clear hu3 q0 q1 q2 q3 q4 j0 j1 j2 j3 j4
  refine (eqCluster_same s _ _ _ _ _ _ _ _ _ _ _ _ _ (HO.reads hz) (TW.below B1) hL).mono ?_
  rintro r w4 ⟨rfl, hB⟩
  replace kv3 := cu_keep hB kv3
  replace kg := cu_keep hB kg
  replace BW := stCu BW hB
  replace B1 := stCu B1 hB
  replace HO := HO.below hB
  have z4 : u3.heap.size ≤ w4.heap.size := hB.size
  clear hB
  have kq := kg
  obtain ⟨j0, j1, j2, j3, j4⟩ := kq
  go_wp2_with fail
  clear j0 j1 j2 j3 j4
  refine (markCluster_any s 1 u1.heap.size _ _ _ _ _ _ _ _ _ _ _ _ _ HO hz (Nat.le_refl _) (by omega)).mono ?_
  rintro r wA ⟨hr, HH, hB, hO⟩
  rw [HKK.out] at hr
  subst hr
  have kvA : wA.cell? ⟨w1.heap.size, 0, none⟩ = some (.int .i64 s.tep) ∧ wA.cell? ⟨w1.heap.size, 1, none⟩ = some (.int .i64 s.tld) ∧ wA.cell? ⟨w1.heap.size, 2, none⟩ = some (.slice va0 s.tst.length vac0) ∧ wA.cell? ⟨w1.heap.size, 3, none⟩ = some (.slice va1 s.nodes.length vac1) ∧ wA.cell? ⟨w1.heap.size, 4, none⟩ = some (.slice va2 s.acked.length vac2) := by
    obtain ⟨q0, q1, q2, q3, q4⟩ := kv3
    exact ⟨(hB.cell (p := ⟨w1.heap.size, 0, none⟩) (by show w1.heap.size < _; omega)).trans q0, (hB.cell (p := ⟨w1.heap.size, 1, none⟩) (by show w1.heap.size < _; omega)).trans q1, (hB.cell (p := ⟨w1.heap.size, 2, none⟩) (by show w1.heap.size < _; omega)).trans q2, (hB.cell (p := ⟨w1.heap.size, 3, none⟩) (by show w1.heap.size < _; omega)).trans q3, (hB.cell (p := ⟨w1.heap.size, 4, none⟩) (by show w1.heap.size < _; omega)).trans q4⟩
  have kgA : wA.cell? ⟨w3.heap.size, 0, none⟩ = some (.int .i64 s.tep) ∧ wA.cell? ⟨w3.heap.size, 1, none⟩ = some (.int .i64 s.tld) ∧ wA.cell? ⟨w3.heap.size, 2, none⟩ = some (.slice ga0 s.tst.length gac0) ∧ wA.cell? ⟨w3.heap.size, 3, none⟩ = some (.slice ga1 s.nodes.length gac1) ∧ wA.cell? ⟨w3.heap.size, 4, none⟩ = some (.slice ga2 s.acked.length gac2) := by
    obtain ⟨q0, q1, q2, q3, q4⟩ := kg
    exact ⟨(World.cell?_of_block (a := ⟨w3.heap.size, 0, none⟩) (hO _ (lt_of_cell q0) (fun h => by have := lG w3.heap.size h; omega))).trans q0, (World.cell?_of_block (a := ⟨w3.heap.size, 1, none⟩) (hO _ (lt_of_cell q1) (fun h => by have := lG w3.heap.size h; omega))).trans q1, (World.cell?_of_block (a := ⟨w3.heap.size, 2, none⟩) (hO _ (lt_of_cell q2) (fun h => by have := lG w3.heap.size h; omega))).trans q2, (World.cell?_of_block (a := ⟨w3.heap.size, 3, none⟩) (hO _ (lt_of_cell q3) (fun h => by have := lG w3.heap.size h; omega))).trans q3, (World.cell?_of_block (a := ⟨w3.heap.size, 4, none⟩) (hO _ (lt_of_cell q4) (fun h => by have := lG w3.heap.size h; omega))).trans q4⟩
  replace BW := BW.trans (hB.mono (by omega))
  replace B1 := B1.trans (hB.mono (by omega))
  clear hB hO HO lG kv3 kg
  have kq := kgA
  obtain ⟨j0, j1, j2, j3, j4⟩ := kq
  go_wp2_with fail
  clear j0 j1 j2 j3 j4
  refine (heldCluster_any s 1 u1.heap.size _ _ _ _ _ _ _ _ _ _ _ _ _ HH hz (Nat.le_refl _)).mono ?_
  rintro r wB ⟨hr, hB⟩
  rw [HKK.out] at hr
  subst hr
  replace kvA := cu_keep hB kvA
  replace kgA := cu_keep hB kgA
  replace BW := stCu BW hB
  replace B1 := stCu B1 hB
  replace HH := HH.below hB
  clear hB
  go_wp2_with fail
  refine (HI.out _ BW).mono ?_
  rintro r wD ⟨ha0, ha1, ha2, hac0, hac1, hac2, _, _, _, _, _, _, rfl, HD, hB⟩
  replace kvA := cu_keep hB kvA
  replace kgA := cu_keep hB kgA
  replace BW := stCu BW hB
  replace B1 := stCu B1 hB
  replace HH := HH.below hB
  have TD := HD.reads hz
  clear hB HD
  obtain ⟨uD, huD⟩ : ∃ u, (wD.alloc (.cells #[.int .i64 s.tep, .int .i64 s.tld, .slice ha0 s.tst.length hac0, .slice ha1 s.nodes.length hac1, .slice ha2 s.acked.length hac2] 28)) = u := ⟨_, rfl⟩
  have kh : uD.cell? ⟨wD.heap.size, 0, none⟩ = some (.int .i64 s.tep) ∧ uD.cell? ⟨wD.heap.size, 1, none⟩ = some (.int .i64 s.tld) ∧ uD.cell? ⟨wD.heap.size, 2, none⟩ = some (.slice ha0 s.tst.length hac0) ∧ uD.cell? ⟨wD.heap.size, 3, none⟩ = some (.slice ha1 s.nodes.length hac1) ∧ uD.cell? ⟨wD.heap.size, 4, none⟩ = some (.slice ha2 s.acked.length hac2) := by rw [← huD]; simp [go_sem]
  have buD : Below wD.heap.size wD uD := by rw [← huD]; exact alCu _ _
  have zuD : uD.heap.size = wD.heap.size + 1 := by rw [← huD]; simp
  replace BW := stCu BW buD
  replace B1 := stCu B1 buD
  replace kvA := cu_keep buD kvA
  replace kgA := cu_keep buD kgA
  replace HH := HH.below buD
  replace TD := TD.below buD
  have kq := kvA
  obtain ⟨q0, q1, q2, q3, q4⟩ := kq
  have kq := kh
  obtain ⟨j0, j1, j2, j3, j4⟩ := kq
  go_wp2_with fail
  clear huD q0 q1 q2 q3 q4 j0 j1 j2 j3 j4
  refine (eqCluster_same s _ _ _ _ _ _ _ _ _ _ _ _ _ TD (TW.below B1) hL).mono ?_
  rintro r wE ⟨rfl, hB⟩
  replace kgA := cu_keep hB kgA
  replace BW := stCu BW hB
  replace HH := HH.below hB
  clear hB TD kh kvA
  obtain ⟨j0, j1, j2, j3, j4⟩ := kgA
  go_wp2_with fail
  clear j0 j1 j2 j3 j4
  refine (heldCluster_any s 1 u1.heap.size _ _ _ _ _ _ _ _ _ _ _ _ _ HH hz (Nat.le_refl _)).mono ?_
  rintro r wF ⟨hr, hB⟩
  rw [HKK.out] at hr
  subst hr
  replace BW := stCu BW hB
  clear hB HH
  go_wp2
  go_ret
  exact ⟨rfl, BW⟩

end Go.Proofs.YtekjpbfmiebigaaDoor
