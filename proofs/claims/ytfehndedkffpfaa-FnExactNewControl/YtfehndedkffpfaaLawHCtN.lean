/-
  The walk of the law FnExactNewControl, the contracts of spec.NewControl and impl.NewControl given: at all that can be read it answers true and leaves what was there as it was. Made by mkwlaw.py.
-/
import Derived.Test.YtfehndedkffpfaaCtlM
import Derived.WalkMore
namespace Go.Proofs.Ytfehndedkffpfaa
open Go.RowKit

set_option maxRecDepth 100000 in
set_option maxHeartbeats 8000000 in
theorem lawCtNH (z1 : Int) (s : Ct) (ok : Bool) (w : World) (hz : CtS s) (hL : CtL s)
    (HS0 : ∀ (u : World), Calls Try.prog 9 #[.int .i64 z1] u fun e u' => ∃ a0 a1 ac0 ac1, e = .returned (.tuple #[ctV s a0 ac0 a1 ac1, .bool ok]) ∧ CtR u' s a0 a1 ∧ Below u.heap.size u u')
    (HI0 : ∀ (u : World), Calls Try.prog 10 #[.int .i64 z1] u fun e u' => ∃ a0 a1 ac0 ac1 r10 r11 k10 k11, e = .returned (.tuple #[ctV s a0 ac0 a1 ac1, .bool ok]) ∧ CtO u' u.heap.size s a0 a1 r10 r11 k10 k11 ∧ Below u.heap.size u u') :
    Calls Try.prog 3 #[.int .i64 z1] w fun r w' => r = .returned (.bool true) ∧ Below w.heap.size w w' := by
  have hT : (ok != ok) = false := by cases ok <;> rfl
  have HS : Hid (∀ (u : World), Calls Try.prog 9 #[.int .i64 z1] u fun e u' => ∃ a0 a1 ac0 ac1, e = .returned (.tuple #[ctV s a0 ac0 a1 ac1, .bool ok]) ∧ CtR u' s a0 a1 ∧ Below u.heap.size u u') := HS0
  have HI : Hid (∀ (u : World), Calls Try.prog 10 #[.int .i64 z1] u fun e u' => ∃ a0 a1 ac0 ac1 r10 r11 k10 k11, e = .returned (.tuple #[ctV s a0 ac0 a1 ac1, .bool ok]) ∧ CtO u' u.heap.size s a0 a1 r10 r11 k10 k11 ∧ Below u.heap.size u u') := HI0
  clear HS0 HI0
  have BW : Below w.heap.size w w := Below.refl _ _
  obtain ⟨KK, hKK⟩ : ∃ KK : Nat, (PnK s.parts (1 + 3 * s.brks.length) s.parts.length) = KK := ⟨_, rfl⟩
  have HKK : Hid ((PnK s.parts (1 + 3 * s.brks.length) s.parts.length) = KK) := hKK
  have hKs : KK ≤ 1000000000 := by rw [← hKK]; exact hz.tot 1 (Nat.le_refl _)
  have hm2 : (((KK : Nat) : Int) != ((KK : Nat) : Int)) = false := by simp
  have hp0 : ¬ (((KK : Nat) : Int) < 0) := by omega
  clear hKK
  go_enter Try.func3, Try.ntmps3
  go_wp2_with fail
  refine (HS.out _ ).mono ?_
  rintro r w1 ⟨va0, va1, vac0, vac1, rfl, TW, hB⟩
  replace BW := stCt BW hB
  have zw : w.heap.size ≤ w1.heap.size := BW.size
  clear hB HS
  obtain ⟨u1, hu1⟩ : ∃ u, (w1.alloc (.cells #[.slice va0 s.brks.length vac0, .slice va1 s.parts.length vac1, .int .i64 s.next] 25)) = u := ⟨_, rfl⟩
  have kv : u1.cell? ⟨w1.heap.size, 0, none⟩ = some (.slice va0 s.brks.length vac0) ∧ u1.cell? ⟨w1.heap.size, 1, none⟩ = some (.slice va1 s.parts.length vac1) ∧ u1.cell? ⟨w1.heap.size, 2, none⟩ = some (.int .i64 s.next) := by rw [← hu1]; simp [go_sem]
  have bu1 : Below w1.heap.size w1 u1 := by rw [← hu1]; exact alCt _ _
  have zu1 : u1.heap.size = w1.heap.size + 1 := by rw [← hu1]; simp
  replace BW := stCt BW bu1
  have B1 : Below w1.heap.size w1 u1 := bu1
  have kq := kv
  obtain ⟨q0, q1, q2⟩ := kq
  have zx : w1.heap.size + 1 ≤ u1.heap.size := by omega
  clear kv
  go_wp2_with fail
  clear hu1
  refine (HI.out _ ).mono ?_
  rintro r w3 ⟨ga0, ga1, gac0, gac1, r10, r11, k10, k11, rfl, HO, hB⟩
  have kv3 := ct_keep hB ⟨q0, q1, q2⟩
  replace BW := stCt BW hB
  replace B1 := stCt B1 hB
  have lG : ∀ b, CtIn ga0 ga1 s r10 r11 b → u1.heap.size ≤ b ∧ b < w3.heap.size := fun b h => HO.lt h
  have zg : u1.heap.size ≤ w3.heap.size := hB.size
  clear hB q0 q1 q2
  obtain ⟨u3, hu3⟩ : ∃ u, (w3.alloc (.cells #[.slice ga0 s.brks.length gac0, .slice ga1 s.parts.length gac1, .int .i64 s.next] 25)) = u := ⟨_, rfl⟩
  have kg : u3.cell? ⟨w3.heap.size, 0, none⟩ = some (.slice ga0 s.brks.length gac0) ∧ u3.cell? ⟨w3.heap.size, 1, none⟩ = some (.slice ga1 s.parts.length gac1) ∧ u3.cell? ⟨w3.heap.size, 2, none⟩ = some (.int .i64 s.next) := by rw [← hu3]; simp [go_sem]
  have bu3 : Below w3.heap.size w3 u3 := by rw [← hu3]; exact alCt _ _
  have zu3 : u3.heap.size = w3.heap.size + 1 := by rw [← hu3]; simp
  replace BW := stCt BW bu3
  replace B1 := stCt B1 bu3
  replace kv3 := ct_keep bu3 kv3
  replace HO := HO.below bu3
  have kq := kv3
  obtain ⟨q0, q1, q2⟩ := kq
  have kq := kg
  obtain ⟨j0, j1, j2⟩ := kq
  go_wp2_with fail
  clear hu3 q0 q1 q2 j0 j1 j2
  refine (eqControl_same s _ _ _ _ _ _ _ _ _ (HO.reads hz) (TW.below B1) hL).mono ?_
  rintro r w4 ⟨rfl, hB⟩
  replace kv3 := ct_keep hB kv3
  replace kg := ct_keep hB kg
  replace BW := stCt BW hB
  replace B1 := stCt B1 hB
  replace HO := HO.below hB
  have z4 : u3.heap.size ≤ w4.heap.size := hB.size
  clear hB
  have kq := kg
  obtain ⟨j0, j1, j2⟩ := kq
  go_wp2_with fail
  clear j0 j1 j2
  refine (markControl_any s 1 u1.heap.size _ _ _ _ _ _ _ _ _ HO hz (Nat.le_refl _) (by omega)).mono ?_
  rintro r wA ⟨hr, HH, hB, hO⟩
  rw [HKK.out] at hr
  subst hr
  have kvA : wA.cell? ⟨w1.heap.size, 0, none⟩ = some (.slice va0 s.brks.length vac0) ∧ wA.cell? ⟨w1.heap.size, 1, none⟩ = some (.slice va1 s.parts.length vac1) ∧ wA.cell? ⟨w1.heap.size, 2, none⟩ = some (.int .i64 s.next) := by
    obtain ⟨q0, q1, q2⟩ := kv3
    exact ⟨(hB.cell (p := ⟨w1.heap.size, 0, none⟩) (by show w1.heap.size < _; omega)).trans q0, (hB.cell (p := ⟨w1.heap.size, 1, none⟩) (by show w1.heap.size < _; omega)).trans q1, (hB.cell (p := ⟨w1.heap.size, 2, none⟩) (by show w1.heap.size < _; omega)).trans q2⟩
  have kgA : wA.cell? ⟨w3.heap.size, 0, none⟩ = some (.slice ga0 s.brks.length gac0) ∧ wA.cell? ⟨w3.heap.size, 1, none⟩ = some (.slice ga1 s.parts.length gac1) ∧ wA.cell? ⟨w3.heap.size, 2, none⟩ = some (.int .i64 s.next) := by
    obtain ⟨q0, q1, q2⟩ := kg
    exact ⟨(World.cell?_of_block (a := ⟨w3.heap.size, 0, none⟩) (hO _ (lt_of_cell q0) (fun h => by have := lG w3.heap.size h; omega))).trans q0, (World.cell?_of_block (a := ⟨w3.heap.size, 1, none⟩) (hO _ (lt_of_cell q1) (fun h => by have := lG w3.heap.size h; omega))).trans q1, (World.cell?_of_block (a := ⟨w3.heap.size, 2, none⟩) (hO _ (lt_of_cell q2) (fun h => by have := lG w3.heap.size h; omega))).trans q2⟩
  replace BW := BW.trans (hB.mono (by omega))
  replace B1 := B1.trans (hB.mono (by omega))
  clear hB hO HO lG kv3 kg
  have kq := kgA
  obtain ⟨j0, j1, j2⟩ := kq
  go_wp2_with fail
  clear j0 j1 j2
  refine (heldControl_any s 1 u1.heap.size _ _ _ _ _ _ _ _ _ HH hz (Nat.le_refl _)).mono ?_
  rintro r wB ⟨hr, hB⟩
  rw [HKK.out] at hr
  subst hr
  replace kvA := ct_keep hB kvA
  replace kgA := ct_keep hB kgA
  replace BW := stCt BW hB
  replace B1 := stCt B1 hB
  replace HH := HH.below hB
  clear hB
  go_wp2_with fail
  refine (HI.out _ ).mono ?_
  rintro r wD ⟨ha0, ha1, hac0, hac1, _, _, _, _, rfl, HD, hB⟩
  replace kvA := ct_keep hB kvA
  replace kgA := ct_keep hB kgA
  replace BW := stCt BW hB
  replace B1 := stCt B1 hB
  replace HH := HH.below hB
  have TD := HD.reads hz
  clear hB HD
  obtain ⟨uD, huD⟩ : ∃ u, (wD.alloc (.cells #[.slice ha0 s.brks.length hac0, .slice ha1 s.parts.length hac1, .int .i64 s.next] 25)) = u := ⟨_, rfl⟩
  have kh : uD.cell? ⟨wD.heap.size, 0, none⟩ = some (.slice ha0 s.brks.length hac0) ∧ uD.cell? ⟨wD.heap.size, 1, none⟩ = some (.slice ha1 s.parts.length hac1) ∧ uD.cell? ⟨wD.heap.size, 2, none⟩ = some (.int .i64 s.next) := by rw [← huD]; simp [go_sem]
  have buD : Below wD.heap.size wD uD := by rw [← huD]; exact alCt _ _
  have zuD : uD.heap.size = wD.heap.size + 1 := by rw [← huD]; simp
  replace BW := stCt BW buD
  replace B1 := stCt B1 buD
  replace kvA := ct_keep buD kvA
  replace kgA := ct_keep buD kgA
  replace HH := HH.below buD
  replace TD := TD.below buD
  have kq := kvA
  obtain ⟨q0, q1, q2⟩ := kq
  have kq := kh
  obtain ⟨j0, j1, j2⟩ := kq
  go_wp2_with fail
  clear huD q0 q1 q2 j0 j1 j2
  refine (eqControl_same s _ _ _ _ _ _ _ _ _ TD (TW.below B1) hL).mono ?_
  rintro r wE ⟨rfl, hB⟩
  replace kgA := ct_keep hB kgA
  replace BW := stCt BW hB
  replace HH := HH.below hB
  clear hB TD kh kvA
  obtain ⟨j0, j1, j2⟩ := kgA
  go_wp2_with fail
  clear j0 j1 j2
  refine (heldControl_any s 1 u1.heap.size _ _ _ _ _ _ _ _ _ HH hz (Nat.le_refl _)).mono ?_
  rintro r wF ⟨hr, hB⟩
  rw [HKK.out] at hr
  subst hr
  replace BW := stCt BW hB
  clear hB HH
  go_wp2
  go_ret
  exact ⟨rfl, BW⟩

end Go.Proofs.Ytfehndedkffpfaa
