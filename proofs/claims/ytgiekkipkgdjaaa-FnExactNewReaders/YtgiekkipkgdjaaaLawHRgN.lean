/-
  The walk of the law FnExactNewReaders, the contracts of spec.NewReaders and impl.NewReaders given: at all that can be read it answers true and leaves what was there as it was. Made by mkwlaw.py.
-/
import Derived.Test.YtgiekkipkgdjaaaRdgM
import Derived.WalkMore
namespace Go.Proofs.Ytgiekkipkgdjaaa
open Go.RowKit

set_option maxRecDepth 100000 in
set_option maxHeartbeats 8000000 in
theorem lawRgNH (z1 : Int) (L : List Int) (s : Rg) (ok : Bool) (la : Option Addr) (lc : Nat) (w : World) (hs : Ints w la L) (hm : L.length ≤ maxLen) (hz : RgS s) (hL : RgL s)
    (HS0 : ∀ (u : World) (b : Option Addr) (d : Nat), Ints u b L → Calls Try.prog 10 #[.int .i64 z1, .slice b L.length d] u fun e u' => ∃ a0 a1 a2 ac0 ac1 ac2, e = .returned (.tuple #[rgV s a0 ac0 a1 ac1 a2 ac2, .bool ok]) ∧ RgR u' s a0 a1 a2 ∧ Below u.heap.size u u')
    (HI0 : ∀ (u : World) (b : Option Addr) (d : Nat), Ints u b L → Calls Try.prog 12 #[.int .i64 z1, .slice b L.length d] u fun e u' => ∃ a0 a1 a2 ac0 ac1 ac2 r02 r03 k02 k03, e = .returned (.tuple #[rgV s a0 ac0 a1 ac1 a2 ac2, .bool ok]) ∧ RgO u' u.heap.size s a0 a1 a2 r02 r03 k02 k03 ∧ Below u.heap.size u u') :
    Calls Try.prog 3 #[.int .i64 z1, .slice la L.length lc] w fun r w' => r = .returned (.bool true) ∧ Below w.heap.size w w' := by
  have hT : (ok != ok) = false := by cases ok <;> rfl
  have HS : Hid (∀ (u : World) (b : Option Addr) (d : Nat), Ints u b L → Calls Try.prog 10 #[.int .i64 z1, .slice b L.length d] u fun e u' => ∃ a0 a1 a2 ac0 ac1 ac2, e = .returned (.tuple #[rgV s a0 ac0 a1 ac1 a2 ac2, .bool ok]) ∧ RgR u' s a0 a1 a2 ∧ Below u.heap.size u u') := HS0
  have HI : Hid (∀ (u : World) (b : Option Addr) (d : Nat), Ints u b L → Calls Try.prog 12 #[.int .i64 z1, .slice b L.length d] u fun e u' => ∃ a0 a1 a2 ac0 ac1 ac2 r02 r03 k02 k03, e = .returned (.tuple #[rgV s a0 ac0 a1 ac1 a2 ac2, .bool ok]) ∧ RgO u' u.heap.size s a0 a1 a2 r02 r03 k02 k03 ∧ Below u.heap.size u u') := HI0
  clear HS0 HI0
  have BW : Below w.heap.size w w := Below.refl _ _
  obtain ⟨KK, hKK⟩ : ∃ KK : Nat, (((RxK s.rds 1 s.rds.length) + s.com.length) + s.ends.length) = KK := ⟨_, rfl⟩
  have HKK : Hid ((((RxK s.rds 1 s.rds.length) + s.com.length) + s.ends.length) = KK) := hKK
  have hKs : KK ≤ 1000000000 := by rw [← hKK]; exact hz.tot 1 (Nat.le_refl _)
  have hm2 : (((KK : Nat) : Int) != ((KK : Nat) : Int)) = false := by simp
  have hp0 : ¬ (((KK : Nat) : Int) < 0) := by omega
  clear hKK
  have hml := hm
  unfold maxLen at hml
  by_cases hbig : (1048576 : Int) < L.length
  · go_enter Try.func3, Try.ntmps3
    go_wp2
    go_ret
    exact ⟨rfl, Below.refl _ _⟩
  have hl1 : L.length ≤ 1048576 := by omega
  go_enter Try.func3, Try.ntmps3
  go_wp2_with fail
  refine (toIntS_any _ _ L _ (hs.below BW) hl1).mono ?_
  rintro r v1 ⟨x1, rfl, I1, -, hB⟩
  replace BW := stRg BW hB
  clear hB
  go_wp2_with fail
  refine (HS.out _ _ _ I1).mono ?_
  rintro r w1 ⟨va0, va1, va2, vac0, vac1, vac2, rfl, TW, hB⟩
  replace BW := stRg BW hB
  have zw : w.heap.size ≤ w1.heap.size := BW.size
  clear hB HS I1
  obtain ⟨u1, hu1⟩ : ∃ u, (w1.alloc (.cells #[.int .i64 s.gen, .slice va0 s.rds.length vac0, .slice va1 s.com.length vac1, .slice va2 s.ends.length vac2] 25)) = u := ⟨_, rfl⟩
  have kv : u1.cell? ⟨w1.heap.size, 0, none⟩ = some (.int .i64 s.gen) ∧ u1.cell? ⟨w1.heap.size, 1, none⟩ = some (.slice va0 s.rds.length vac0) ∧ u1.cell? ⟨w1.heap.size, 2, none⟩ = some (.slice va1 s.com.length vac1) ∧ u1.cell? ⟨w1.heap.size, 3, none⟩ = some (.slice va2 s.ends.length vac2) := by rw [← hu1]; simp [go_sem]
  have bu1 : Below w1.heap.size w1 u1 := by rw [← hu1]; exact alRg _ _
  have zu1 : u1.heap.size = w1.heap.size + 1 := by rw [← hu1]; simp
  replace BW := stRg BW bu1
  have B1 : Below w1.heap.size w1 u1 := bu1
  have kq := kv
  obtain ⟨q0, q1, q2, q3⟩ := kq
  go_wp2_with fail
  clear hu1 q0 q1 q2 q3
  refine (toIntS_any _ _ L _ (hs.below BW) hl1).mono ?_
  rintro r w2 ⟨x2, rfl, I2, R2, hB⟩
  have kv2 := rg_keep hB kv
  replace BW := stRg BW hB
  replace B1 := stRg B1 hB
  have zx : w1.heap.size + 1 ≤ w2.heap.size := by have := hB.size; omega
  have lX : ∀ b, InI x2 L.length b → w1.heap.size + 1 ≤ b ∧ b < w2.heap.size := fun b h => by have := R2.lt h; omega
  clear hB kv
  obtain ⟨q0, q1, q2, q3⟩ := kv2
  go_wp2_with fail
  skip
  refine (HI.out _ _ _ I2).mono ?_
  rintro r w3 ⟨ga0, ga1, ga2, gac0, gac1, gac2, r02, r03, k02, k03, rfl, HO, hB⟩
  have kv3 := rg_keep hB ⟨q0, q1, q2, q3⟩
  replace BW := stRg BW hB
  replace B1 := stRg B1 hB
  have lG : ∀ b, RgIn ga0 ga1 ga2 s r02 r03 b → w2.heap.size ≤ b ∧ b < w3.heap.size := fun b h => HO.lt h
  have zg : w2.heap.size ≤ w3.heap.size := hB.size
  replace I2 := I2.below hB
  replace R2 := R2.below hB
  clear hB q0 q1 q2 q3
  obtain ⟨u3, hu3⟩ : ∃ u, (w3.alloc (.cells #[.int .i64 s.gen, .slice ga0 s.rds.length gac0, .slice ga1 s.com.length gac1, .slice ga2 s.ends.length gac2] 25)) = u := ⟨_, rfl⟩
  have kg : u3.cell? ⟨w3.heap.size, 0, none⟩ = some (.int .i64 s.gen) ∧ u3.cell? ⟨w3.heap.size, 1, none⟩ = some (.slice ga0 s.rds.length gac0) ∧ u3.cell? ⟨w3.heap.size, 2, none⟩ = some (.slice ga1 s.com.length gac1) ∧ u3.cell? ⟨w3.heap.size, 3, none⟩ = some (.slice ga2 s.ends.length gac2) := by rw [← hu3]; simp [go_sem]
  have bu3 : Below w3.heap.size w3 u3 := by rw [← hu3]; exact alRg _ _
  have zu3 : u3.heap.size = w3.heap.size + 1 := by rw [← hu3]; simp
  replace BW := stRg BW bu3
  replace B1 := stRg B1 bu3
  replace kv3 := rg_keep bu3 kv3
  replace HO := HO.below bu3
  replace I2 := I2.below bu3
  replace R2 := R2.below bu3
  have kq := kv3
  obtain ⟨q0, q1, q2, q3⟩ := kq
  have kq := kg
  obtain ⟨j0, j1, j2, j3⟩ := kq
  go_wp2_with fail
  clear hu3 q0 q1 q2 q3 j0 j1 j2 j3
  refine (eqReaders_same s _ _ _ _ _ _ _ _ _ _ _ _ _ (HO.reads hz) (TW.below B1) hL).mono ?_
  rintro r w4 ⟨rfl, hB⟩
  replace kv3 := rg_keep hB kv3
  replace kg := rg_keep hB kg
  replace BW := stRg BW hB
  replace B1 := stRg B1 hB
  replace HO := HO.below hB
  have z4 : u3.heap.size ≤ w4.heap.size := hB.size
  replace I2 := I2.below hB
  replace R2 := R2.below hB
  clear hB
  go_wp2_with fail
  refine (toIntS_any _ _ L _ (hs.below BW) hl1).mono ?_
  rintro r w5 ⟨x5, rfl, I5, -, hB⟩
  replace kv3 := rg_keep hB kv3
  replace kg := rg_keep hB kg
  replace BW := stRg BW hB
  replace B1 := stRg B1 hB
  replace HO := HO.below hB
  replace I2 := I2.below hB
  replace R2 := R2.below hB
  have z5 : w4.heap.size ≤ w5.heap.size := hB.size
  clear hB
  go_wp2_with fail
  refine (eqIntS_same _ _ _ _ L _ I2 I5 hm).mono ?_
  rintro r w6 ⟨rfl, hB⟩
  replace kv3 := rg_keep hB kv3
  replace kg := rg_keep hB kg
  replace BW := stRg BW hB
  replace B1 := stRg B1 hB
  replace HO := HO.below hB
  replace I2 := I2.below hB
  replace R2 := R2.below hB
  have z6 : w5.heap.size ≤ w6.heap.size := hB.size
  clear hB I2 I5
  have hqk : ¬ (((1 + L.length : Nat) : Int) < 0) := by omega
  go_wp2_with fail
  refine (markIntS_any _ _ _ (w1.heap.size + 1) 1 _ (R2.mono (by omega)) (by omega)).mono ?_
  rintro r w7 ⟨rfl, -, -, hB, hO⟩
  have nX : ∀ b, InI x2 L.length b → w1.heap.size + 1 ≤ b ∧ b < w2.heap.size := lX
  have kv7 : w7.cell? ⟨w1.heap.size, 0, none⟩ = some (.int .i64 s.gen) ∧ w7.cell? ⟨w1.heap.size, 1, none⟩ = some (.slice va0 s.rds.length vac0) ∧ w7.cell? ⟨w1.heap.size, 2, none⟩ = some (.slice va1 s.com.length vac1) ∧ w7.cell? ⟨w1.heap.size, 3, none⟩ = some (.slice va2 s.ends.length vac2) := by
    obtain ⟨q0, q1, q2, q3⟩ := kv3
    exact ⟨(hB.cell (p := ⟨w1.heap.size, 0, none⟩) (by simp)).trans q0, (hB.cell (p := ⟨w1.heap.size, 1, none⟩) (by simp)).trans q1, (hB.cell (p := ⟨w1.heap.size, 2, none⟩) (by simp)).trans q2, (hB.cell (p := ⟨w1.heap.size, 3, none⟩) (by simp)).trans q3⟩
  have kg7 : w7.cell? ⟨w3.heap.size, 0, none⟩ = some (.int .i64 s.gen) ∧ w7.cell? ⟨w3.heap.size, 1, none⟩ = some (.slice ga0 s.rds.length gac0) ∧ w7.cell? ⟨w3.heap.size, 2, none⟩ = some (.slice ga1 s.com.length gac1) ∧ w7.cell? ⟨w3.heap.size, 3, none⟩ = some (.slice ga2 s.ends.length gac2) := by
    obtain ⟨q0, q1, q2, q3⟩ := kg
    exact ⟨(World.cell?_of_block (a := ⟨w3.heap.size, 0, none⟩) (hO _ (lt_of_cell q0) (fun h => by have := nX w3.heap.size h; omega))).trans q0, (World.cell?_of_block (a := ⟨w3.heap.size, 1, none⟩) (hO _ (lt_of_cell q1) (fun h => by have := nX w3.heap.size h; omega))).trans q1, (World.cell?_of_block (a := ⟨w3.heap.size, 2, none⟩) (hO _ (lt_of_cell q2) (fun h => by have := nX w3.heap.size h; omega))).trans q2, (World.cell?_of_block (a := ⟨w3.heap.size, 3, none⟩) (hO _ (lt_of_cell q3) (fun h => by have := nX w3.heap.size h; omega))).trans q3⟩
  have HO7 : RgO w7 w2.heap.size s ga0 ga1 ga2 r02 r03 k02 k03 := HO.of_block (fun b h => hO b (HO.lt h).2 (fun h' => by have := nX b h'; have := lG b h; omega))
  replace BW := BW.trans (hB.mono (by omega))
  replace B1 := B1.trans (hB.mono (by omega))
  have z7 : w6.heap.size ≤ w7.heap.size := hB.size
  clear hB hO nX lX R2 HO kv3 kg
  have kq := kv7
  obtain ⟨q0, q1, q2, q3⟩ := kq
  have kq := kg7
  obtain ⟨j0, j1, j2, j3⟩ := kq
  go_wp2_with fail
  clear q0 q1 q2 q3 j0 j1 j2 j3
  refine (eqReaders_same s _ _ _ _ _ _ _ _ _ _ _ _ _ (HO7.reads hz) (TW.below B1) hL).mono ?_
  rintro r w8 ⟨rfl, hB⟩
  have kv3 := rg_keep hB kv7
  have kg := rg_keep hB kg7
  replace BW := stRg BW hB
  replace B1 := stRg B1 hB
  have HO := HO7.below hB
  have z8 : w7.heap.size ≤ w8.heap.size := hB.size
  clear hB HO7 kv7 kg7
  have kq := kg
  obtain ⟨j0, j1, j2, j3⟩ := kq
  go_wp2_with fail
  clear j0 j1 j2 j3
  refine (markReaders_any s 1 w2.heap.size _ _ _ _ _ _ _ _ _ _ _ HO hz (Nat.le_refl _) (by omega)).mono ?_
  rintro r wA ⟨hr, HH, hB, hO⟩
  rw [HKK.out] at hr
  subst hr
  have kvA : wA.cell? ⟨w1.heap.size, 0, none⟩ = some (.int .i64 s.gen) ∧ wA.cell? ⟨w1.heap.size, 1, none⟩ = some (.slice va0 s.rds.length vac0) ∧ wA.cell? ⟨w1.heap.size, 2, none⟩ = some (.slice va1 s.com.length vac1) ∧ wA.cell? ⟨w1.heap.size, 3, none⟩ = some (.slice va2 s.ends.length vac2) := by
    obtain ⟨q0, q1, q2, q3⟩ := kv3
    exact ⟨(hB.cell (p := ⟨w1.heap.size, 0, none⟩) (by show w1.heap.size < _; omega)).trans q0, (hB.cell (p := ⟨w1.heap.size, 1, none⟩) (by show w1.heap.size < _; omega)).trans q1, (hB.cell (p := ⟨w1.heap.size, 2, none⟩) (by show w1.heap.size < _; omega)).trans q2, (hB.cell (p := ⟨w1.heap.size, 3, none⟩) (by show w1.heap.size < _; omega)).trans q3⟩
  have kgA : wA.cell? ⟨w3.heap.size, 0, none⟩ = some (.int .i64 s.gen) ∧ wA.cell? ⟨w3.heap.size, 1, none⟩ = some (.slice ga0 s.rds.length gac0) ∧ wA.cell? ⟨w3.heap.size, 2, none⟩ = some (.slice ga1 s.com.length gac1) ∧ wA.cell? ⟨w3.heap.size, 3, none⟩ = some (.slice ga2 s.ends.length gac2) := by
    obtain ⟨q0, q1, q2, q3⟩ := kg
    exact ⟨(World.cell?_of_block (a := ⟨w3.heap.size, 0, none⟩) (hO _ (lt_of_cell q0) (fun h => by have := lG w3.heap.size h; omega))).trans q0, (World.cell?_of_block (a := ⟨w3.heap.size, 1, none⟩) (hO _ (lt_of_cell q1) (fun h => by have := lG w3.heap.size h; omega))).trans q1, (World.cell?_of_block (a := ⟨w3.heap.size, 2, none⟩) (hO _ (lt_of_cell q2) (fun h => by have := lG w3.heap.size h; omega))).trans q2, (World.cell?_of_block (a := ⟨w3.heap.size, 3, none⟩) (hO _ (lt_of_cell q3) (fun h => by have := lG w3.heap.size h; omega))).trans q3⟩
  replace BW := BW.trans (hB.mono (by omega))
  replace B1 := B1.trans (hB.mono (by omega))
  clear hB hO HO lG kv3 kg
  have kq := kgA
  obtain ⟨j0, j1, j2, j3⟩ := kq
  go_wp2_with fail
  clear j0 j1 j2 j3
  refine (heldReaders_any s 1 w2.heap.size _ _ _ _ _ _ _ _ _ _ _ HH hz (Nat.le_refl _)).mono ?_
  rintro r wB ⟨hr, hB⟩
  rw [HKK.out] at hr
  subst hr
  replace kvA := rg_keep hB kvA
  replace kgA := rg_keep hB kgA
  replace BW := stRg BW hB
  replace B1 := stRg B1 hB
  replace HH := HH.below hB
  clear hB
  go_wp2_with fail
  refine (toIntS_any _ _ L _ (hs.below BW) hl1).mono ?_
  rintro r wC ⟨x9, rfl, I9, -, hB⟩
  replace kvA := rg_keep hB kvA
  replace kgA := rg_keep hB kgA
  replace BW := stRg BW hB
  replace B1 := stRg B1 hB
  replace HH := HH.below hB
  clear hB
  go_wp2_with fail
  refine (HI.out _ _ _ I9).mono ?_
  rintro r wD ⟨ha0, ha1, ha2, hac0, hac1, hac2, _, _, _, _, rfl, HD, hB⟩
  replace kvA := rg_keep hB kvA
  replace kgA := rg_keep hB kgA
  replace BW := stRg BW hB
  replace B1 := stRg B1 hB
  replace HH := HH.below hB
  have TD := HD.reads hz
  clear hB HD I9
  obtain ⟨uD, huD⟩ : ∃ u, (wD.alloc (.cells #[.int .i64 s.gen, .slice ha0 s.rds.length hac0, .slice ha1 s.com.length hac1, .slice ha2 s.ends.length hac2] 25)) = u := ⟨_, rfl⟩
  have kh : uD.cell? ⟨wD.heap.size, 0, none⟩ = some (.int .i64 s.gen) ∧ uD.cell? ⟨wD.heap.size, 1, none⟩ = some (.slice ha0 s.rds.length hac0) ∧ uD.cell? ⟨wD.heap.size, 2, none⟩ = some (.slice ha1 s.com.length hac1) ∧ uD.cell? ⟨wD.heap.size, 3, none⟩ = some (.slice ha2 s.ends.length hac2) := by rw [← huD]; simp [go_sem]
  have buD : Below wD.heap.size wD uD := by rw [← huD]; exact alRg _ _
  have zuD : uD.heap.size = wD.heap.size + 1 := by rw [← huD]; simp
  replace BW := stRg BW buD
  replace B1 := stRg B1 buD
  replace kvA := rg_keep buD kvA
  replace kgA := rg_keep buD kgA
  replace HH := HH.below buD
  replace TD := TD.below buD
  have kq := kvA
  obtain ⟨q0, q1, q2, q3⟩ := kq
  have kq := kh
  obtain ⟨j0, j1, j2, j3⟩ := kq
  go_wp2_with fail
  clear huD q0 q1 q2 q3 j0 j1 j2 j3
  refine (eqReaders_same s _ _ _ _ _ _ _ _ _ _ _ _ _ TD (TW.below B1) hL).mono ?_
  rintro r wE ⟨rfl, hB⟩
  replace kgA := rg_keep hB kgA
  replace BW := stRg BW hB
  replace HH := HH.below hB
  clear hB TD kh kvA
  obtain ⟨j0, j1, j2, j3⟩ := kgA
  go_wp2_with fail
  clear j0 j1 j2 j3
  refine (heldReaders_any s 1 w2.heap.size _ _ _ _ _ _ _ _ _ _ _ HH hz (Nat.le_refl _)).mono ?_
  rintro r wF ⟨hr, hB⟩
  rw [HKK.out] at hr
  subst hr
  replace BW := stRg BW hB
  clear hB HH
  go_wp2
  go_ret
  exact ⟨rfl, BW⟩

end Go.Proofs.Ytgiekkipkgdjaaa
