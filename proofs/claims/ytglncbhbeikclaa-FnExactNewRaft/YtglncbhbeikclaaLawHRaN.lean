/-
  The walk of the law FnExactNewRaft, the contracts of spec.NewRaft and impl.NewRaft given: at all that can be read it answers true and leaves what was there as it was. Made by mkwlaw.py.
-/
import Derived.Test.YtglncbhbeikclaaRftM
import Derived.WalkMore
namespace Go.Proofs.Ytglncbhbeikclaa
open Go.RowKit

set_option maxRecDepth 100000 in
set_option maxHeartbeats 8000000 in
theorem lawRaNH (z1 : Int) (s : Ra) (ok : Bool) (w : World) (hz : RaS s) (hL : RaL s)
    (HS0 : ∀ (u : World), Calls Try.prog 9 #[.int .i64 z1] u fun e u' => ∃ a0 a1 ac0 ac1, e = .returned (.tuple #[raV s a0 ac0 a1 ac1, .bool ok]) ∧ RaR u' s a0 a1 ∧ Below u.heap.size u u')
    (HI0 : ∀ (u : World), Calls Try.prog 10 #[.int .i64 z1] u fun e u' => ∃ a0 a1 ac0 ac1 r02 r04 r16 k02 k04 k16, e = .returned (.tuple #[raV s a0 ac0 a1 ac1, .bool ok]) ∧ RaO u' u.heap.size s a0 a1 r02 r04 r16 k02 k04 k16 ∧ Below u.heap.size u u') :
    Calls Try.prog 3 #[.int .i64 z1] w fun r w' => r = .returned (.bool true) ∧ Below w.heap.size w w' := by
  have hT : (ok != ok) = false := by cases ok <;> rfl
  have HS : Hid (∀ (u : World), Calls Try.prog 9 #[.int .i64 z1] u fun e u' => ∃ a0 a1 ac0 ac1, e = .returned (.tuple #[raV s a0 ac0 a1 ac1, .bool ok]) ∧ RaR u' s a0 a1 ∧ Below u.heap.size u u') := HS0
  have HI : Hid (∀ (u : World), Calls Try.prog 10 #[.int .i64 z1] u fun e u' => ∃ a0 a1 ac0 ac1 r02 r04 r16 k02 k04 k16, e = .returned (.tuple #[raV s a0 ac0 a1 ac1, .bool ok]) ∧ RaO u' u.heap.size s a0 a1 r02 r04 r16 k02 k04 k16 ∧ Below u.heap.size u u') := HI0
  clear HS0 HI0
  have BW : Below w.heap.size w w := Below.refl _ _
  obtain ⟨KK, hKK⟩ : ∃ KK : Nat, (MaK s.mail (PeK s.prs 1 s.prs.length) s.mail.length) = KK := ⟨_, rfl⟩
  have HKK : Hid ((MaK s.mail (PeK s.prs 1 s.prs.length) s.mail.length) = KK) := hKK
  have hKs : KK ≤ 1000000000 := by rw [← hKK]; exact hz.tot 1 (Nat.le_refl _)
  have hm2 : (((KK : Nat) : Int) != ((KK : Nat) : Int)) = false := by simp
  have hp0 : ¬ (((KK : Nat) : Int) < 0) := by omega
  clear hKK
  go_enter Try.func3, Try.ntmps3
  go_wp2_with fail
  refine (HS.out _ ).mono ?_
  rintro r w1 ⟨va0, va1, vac0, vac1, rfl, TW, hB⟩
  replace BW := stRa BW hB
  have zw : w.heap.size ≤ w1.heap.size := BW.size
  clear hB HS
  obtain ⟨u1, hu1⟩ : ∃ u, (w1.alloc (.cells #[.slice va0 s.prs.length vac0, .slice va1 s.mail.length vac1] 25)) = u := ⟨_, rfl⟩
  have kv : u1.cell? ⟨w1.heap.size, 0, none⟩ = some (.slice va0 s.prs.length vac0) ∧ u1.cell? ⟨w1.heap.size, 1, none⟩ = some (.slice va1 s.mail.length vac1) := by rw [← hu1]; simp [go_sem]
  have bu1 : Below w1.heap.size w1 u1 := by rw [← hu1]; exact alRa _ _
  have zu1 : u1.heap.size = w1.heap.size + 1 := by rw [← hu1]; simp
  replace BW := stRa BW bu1
  have B1 : Below w1.heap.size w1 u1 := bu1
  have kq := kv
  obtain ⟨q0, q1⟩ := kq
  have zx : w1.heap.size + 1 ≤ u1.heap.size := by omega
  clear kv
  go_wp2_with fail
  clear hu1
  refine (HI.out _ ).mono ?_
  rintro r w3 ⟨ga0, ga1, gac0, gac1, r02, r04, r16, k02, k04, k16, rfl, HO, hB⟩
  have kv3 := ra_keep hB ⟨q0, q1⟩
  replace BW := stRa BW hB
  replace B1 := stRa B1 hB
  have lG : ∀ b, RaIn ga0 ga1 s r02 r04 r16 b → u1.heap.size ≤ b ∧ b < w3.heap.size := fun b h => HO.lt h
  have zg : u1.heap.size ≤ w3.heap.size := hB.size
  clear hB q0 q1
  obtain ⟨u3, hu3⟩ : ∃ u, (w3.alloc (.cells #[.slice ga0 s.prs.length gac0, .slice ga1 s.mail.length gac1] 25)) = u := ⟨_, rfl⟩
  have kg : u3.cell? ⟨w3.heap.size, 0, none⟩ = some (.slice ga0 s.prs.length gac0) ∧ u3.cell? ⟨w3.heap.size, 1, none⟩ = some (.slice ga1 s.mail.length gac1) := by rw [← hu3]; simp [go_sem]
  have bu3 : Below w3.heap.size w3 u3 := by rw [← hu3]; exact alRa _ _
  have zu3 : u3.heap.size = w3.heap.size + 1 := by rw [← hu3]; simp
  replace BW := stRa BW bu3
  replace B1 := stRa B1 bu3
  replace kv3 := ra_keep bu3 kv3
  replace HO := HO.below bu3
  have kq := kv3
  obtain ⟨q0, q1⟩ := kq
  have kq := kg
  obtain ⟨j0, j1⟩ := kq
  go_wp2_with fail
  clear hu3 q0 q1 j0 j1
  refine (eqRaft_same s _ _ _ _ _ _ _ _ _ (HO.reads hz) (TW.below B1) hL).mono ?_
  rintro r w4 ⟨rfl, hB⟩
  replace kv3 := ra_keep hB kv3
  replace kg := ra_keep hB kg
  replace BW := stRa BW hB
  replace B1 := stRa B1 hB
  replace HO := HO.below hB
  have z4 : u3.heap.size ≤ w4.heap.size := hB.size
  clear hB
  have kq := kg
  obtain ⟨j0, j1⟩ := kq
  go_wp2_with fail
  clear j0 j1
  refine (markRaft_any s 1 u1.heap.size _ _ _ _ _ _ _ _ _ _ _ HO hz (Nat.le_refl _) (by omega)).mono ?_
  rintro r wA ⟨hr, HH, hB, hO⟩
  rw [HKK.out] at hr
  subst hr
  have kvA : wA.cell? ⟨w1.heap.size, 0, none⟩ = some (.slice va0 s.prs.length vac0) ∧ wA.cell? ⟨w1.heap.size, 1, none⟩ = some (.slice va1 s.mail.length vac1) := by
    obtain ⟨q0, q1⟩ := kv3
    exact ⟨(hB.cell (p := ⟨w1.heap.size, 0, none⟩) (by show w1.heap.size < _; omega)).trans q0, (hB.cell (p := ⟨w1.heap.size, 1, none⟩) (by show w1.heap.size < _; omega)).trans q1⟩
  have kgA : wA.cell? ⟨w3.heap.size, 0, none⟩ = some (.slice ga0 s.prs.length gac0) ∧ wA.cell? ⟨w3.heap.size, 1, none⟩ = some (.slice ga1 s.mail.length gac1) := by
    obtain ⟨q0, q1⟩ := kg
    exact ⟨(World.cell?_of_block (a := ⟨w3.heap.size, 0, none⟩) (hO _ (lt_of_cell q0) (fun h => by have := lG w3.heap.size h; omega))).trans q0, (World.cell?_of_block (a := ⟨w3.heap.size, 1, none⟩) (hO _ (lt_of_cell q1) (fun h => by have := lG w3.heap.size h; omega))).trans q1⟩
  replace BW := BW.trans (hB.mono (by omega))
  replace B1 := B1.trans (hB.mono (by omega))
  clear hB hO HO lG kv3 kg
  have kq := kgA
  obtain ⟨j0, j1⟩ := kq
  go_wp2_with fail
  clear j0 j1
  refine (heldRaft_any s 1 u1.heap.size _ _ _ _ _ _ _ _ _ _ _ HH hz (Nat.le_refl _)).mono ?_
  rintro r wB ⟨hr, hB⟩
  rw [HKK.out] at hr
  subst hr
  replace kvA := ra_keep hB kvA
  replace kgA := ra_keep hB kgA
  replace BW := stRa BW hB
  replace B1 := stRa B1 hB
  replace HH := HH.below hB
  clear hB
  go_wp2_with fail
  refine (HI.out _ ).mono ?_
  rintro r wD ⟨ha0, ha1, hac0, hac1, _, _, _, _, _, _, rfl, HD, hB⟩
  replace kvA := ra_keep hB kvA
  replace kgA := ra_keep hB kgA
  replace BW := stRa BW hB
  replace B1 := stRa B1 hB
  replace HH := HH.below hB
  have TD := HD.reads hz
  clear hB HD
  obtain ⟨uD, huD⟩ : ∃ u, (wD.alloc (.cells #[.slice ha0 s.prs.length hac0, .slice ha1 s.mail.length hac1] 25)) = u := ⟨_, rfl⟩
  have kh : uD.cell? ⟨wD.heap.size, 0, none⟩ = some (.slice ha0 s.prs.length hac0) ∧ uD.cell? ⟨wD.heap.size, 1, none⟩ = some (.slice ha1 s.mail.length hac1) := by rw [← huD]; simp [go_sem]
  have buD : Below wD.heap.size wD uD := by rw [← huD]; exact alRa _ _
  have zuD : uD.heap.size = wD.heap.size + 1 := by rw [← huD]; simp
  replace BW := stRa BW buD
  replace B1 := stRa B1 buD
  replace kvA := ra_keep buD kvA
  replace kgA := ra_keep buD kgA
  replace HH := HH.below buD
  replace TD := TD.below buD
  have kq := kvA
  obtain ⟨q0, q1⟩ := kq
  have kq := kh
  obtain ⟨j0, j1⟩ := kq
  go_wp2_with fail
  clear huD q0 q1 j0 j1
  refine (eqRaft_same s _ _ _ _ _ _ _ _ _ TD (TW.below B1) hL).mono ?_
  rintro r wE ⟨rfl, hB⟩
  replace kgA := ra_keep hB kgA
  replace BW := stRa BW hB
  replace HH := HH.below hB
  clear hB TD kh kvA
  obtain ⟨j0, j1⟩ := kgA
  go_wp2_with fail
  clear j0 j1
  refine (heldRaft_any s 1 u1.heap.size _ _ _ _ _ _ _ _ _ _ _ HH hz (Nat.le_refl _)).mono ?_
  rintro r wF ⟨hr, hB⟩
  rw [HKK.out] at hr
  subst hr
  replace BW := stRa BW hB
  clear hB HH
  go_wp2
  go_ret
  exact ⟨rfl, BW⟩

end Go.Proofs.Ytglncbhbeikclaa
