/-
  The walk of the law FnExactNewElection, the contracts of spec.NewElection and impl.NewElection given: at all that can be read it answers true and leaves what was there as it was. Made by mkwlaw.py.
-/
import Derived.Test.YthbhokpjedndaaaElcM
import Derived.Test.YthbhokpjedndaaaQLawI
import Derived.WalkMore
namespace Go.Proofs.Ythbhokpjedndaaa
open Go.RowKit

set_option maxRecDepth 100000 in
set_option maxHeartbeats 8000000 in
theorem lawElNH (L : List (List Int)) (s : El) (ok : Bool) (la : Option Addr) (lc : Nat) (w : World) (hs : Intss w la L) (hm : L.length ≤ maxLen) (hz : ElS s) (hL : ElL s)
    (HS0 : ∀ (u : World) (b : Option Addr) (d : Nat), Intss u b L → Calls Try.prog 11 #[.slice b L.length d] u fun e u' => ∃ a0 a1 a2 ac0 ac1 ac2, e = .returned (.tuple #[elV s a0 ac0 a1 ac1 a2 ac2, .bool ok]) ∧ ElR u' s a0 a1 a2 ∧ Below u.heap.size u u')
    (HI0 : ∀ (u : World) (b : Option Addr) (d : Nat), Intss u b L → Calls Try.prog 13 #[.slice b L.length d] u fun e u' => ∃ a0 a1 a2 ac0 ac1 ac2 r04 r05 k04 k05, e = .returned (.tuple #[elV s a0 ac0 a1 ac1 a2 ac2, .bool ok]) ∧ ElO u' u.heap.size s a0 a1 a2 r04 r05 k04 k05 ∧ Below u.heap.size u u') :
    Calls Try.prog 4 #[.slice la L.length lc] w fun r w' => r = .returned (.bool true) ∧ Below w.heap.size w w' := by
  have hT : (ok != ok) = false := by cases ok <;> rfl
  have HS : Hid (∀ (u : World) (b : Option Addr) (d : Nat), Intss u b L → Calls Try.prog 11 #[.slice b L.length d] u fun e u' => ∃ a0 a1 a2 ac0 ac1 ac2, e = .returned (.tuple #[elV s a0 ac0 a1 ac1 a2 ac2, .bool ok]) ∧ ElR u' s a0 a1 a2 ∧ Below u.heap.size u u') := HS0
  have HI : Hid (∀ (u : World) (b : Option Addr) (d : Nat), Intss u b L → Calls Try.prog 13 #[.slice b L.length d] u fun e u' => ∃ a0 a1 a2 ac0 ac1 ac2 r04 r05 k04 k05, e = .returned (.tuple #[elV s a0 ac0 a1 ac1 a2 ac2, .bool ok]) ∧ ElO u' u.heap.size s a0 a1 a2 r04 r05 k04 k05 ∧ Below u.heap.size u u') := HI0
  clear HS0 HI0
  have BW : Below w.heap.size w w := Below.refl _ _
  obtain ⟨KK, hKK⟩ : ∃ KK : Nat, (((SvK s.svs 1 s.svs.length) + 7 * s.post.length) + 2 * s.led.length) = KK := ⟨_, rfl⟩
  have HKK : Hid ((((SvK s.svs 1 s.svs.length) + 7 * s.post.length) + 2 * s.led.length) = KK) := hKK
  have hKs : KK ≤ 1000000000 := by rw [← hKK]; exact hz.tot 1 (Nat.le_refl _)
  have hm2 : (((KK : Nat) : Int) != ((KK : Nat) : Int)) = false := by simp
  have hp0 : ¬ (((KK : Nat) : Int) < 0) := by omega
  clear hKK
  have hr := szL_range L (left := 1048576) (by omega)
  go_enter Try.func4, Try.ntmps4
  go_wp2_with fail
  refine (szIntSS_any _ _ L 1048576 _ hs hm (by omega) (by omega)).mono ?_
  rintro r w0 ⟨rfl, hw⟩
  rw [hw]
  clear hw w0
  by_cases hbig : szL L 1048576 < 0
  · go_wp2
    go_ret
    exact ⟨rfl, Below.refl _ _⟩
  obtain ⟨hb1, hb2⟩ := szL_bound (L := L) (left := 1048576) (by omega)
  have hl1 : L.length ≤ 1048576 := by omega
  have hl2 : ∀ zs ∈ L, zs.length ≤ 1048576 := fun zs hzs => by obtain ⟨i, hi, e⟩ := List.getElem_of_mem hzs; have := totI_mem (L := L) (z := zs) (i := i) (by rw [List.getElem?_eq_getElem hi, e]); omega
  have hl3 : ∀ zs ∈ L, zs.length ≤ maxLen := fun zs hzs => by have := hl2 zs hzs; unfold maxLen; omega
  have htI : totI L ≤ 1048576 := by omega
  clear hb1 hb2
  go_wp2_with fail
  refine (toIntSS_out _ _ L _ (hs.below BW) hl1 hl2).mono ?_
  rintro r v1 ⟨x1, qs1, e1, rfl, Q1, hB⟩
  replace BW := stEl BW hB
  clear hB
  have I1 := Q1.intss (by rw [e1]; exact hl3)
  rw [e1] at I1
  have n1 : qs1.length = L.length := by rw [← e1]; simp
  rw [n1]
  clear Q1 e1 n1
  go_wp2_with fail
  refine (HS.out _ _ _ I1).mono ?_
  rintro r w1 ⟨va0, va1, va2, vac0, vac1, vac2, rfl, TW, hB⟩
  replace BW := stEl BW hB
  have zw : w.heap.size ≤ w1.heap.size := BW.size
  clear hB HS I1
  obtain ⟨u1, hu1⟩ : ∃ u, (w1.alloc (.cells #[.slice va0 s.svs.length vac0, .slice va1 s.post.length vac1, .slice va2 s.led.length vac2] 36)) = u := ⟨_, rfl⟩
  have kv : u1.cell? ⟨w1.heap.size, 0, none⟩ = some (.slice va0 s.svs.length vac0) ∧ u1.cell? ⟨w1.heap.size, 1, none⟩ = some (.slice va1 s.post.length vac1) ∧ u1.cell? ⟨w1.heap.size, 2, none⟩ = some (.slice va2 s.led.length vac2) := by rw [← hu1]; simp [go_sem]
  have bu1 : Below w1.heap.size w1 u1 := by rw [← hu1]; exact alEl _ _
  have zu1 : u1.heap.size = w1.heap.size + 1 := by rw [← hu1]; simp
  replace BW := stEl BW bu1
  have B1 : Below w1.heap.size w1 u1 := bu1
  have kq := kv
  obtain ⟨q0, q1, q2⟩ := kq
  go_wp2_with fail
  clear hu1 q0 q1 q2
  refine (toIntSS_out _ _ L _ (hs.below BW) hl1 hl2).mono ?_
  rintro r w2 ⟨x2, qs2, e2, rfl, Q2, hB⟩
  have kv2 := el_keep hB kv
  replace BW := stEl BW hB
  replace B1 := stEl B1 hB
  have I2 := Q2.intss (by rw [e2]; exact hl3)
  rw [e2] at I2
  have n2 : qs2.length = L.length := by rw [← e2]; simp
  have zx : w1.heap.size + 1 ≤ w2.heap.size := by have := hB.size; omega
  have lX : ∀ b, InO x2 qs2 b → w1.heap.size + 1 ≤ b ∧ b < w2.heap.size := fun b h => by have := Q2.lt h; omega
  rw [n2]
  clear hB kv
  obtain ⟨q0, q1, q2⟩ := kv2
  go_wp2_with fail
  skip
  refine (HI.out _ _ _ I2).mono ?_
  rintro r w3 ⟨ga0, ga1, ga2, gac0, gac1, gac2, r04, r05, k04, k05, rfl, HO, hB⟩
  have kv3 := el_keep hB ⟨q0, q1, q2⟩
  replace BW := stEl BW hB
  replace B1 := stEl B1 hB
  have lG : ∀ b, ElIn ga0 ga1 ga2 s r04 r05 b → w2.heap.size ≤ b ∧ b < w3.heap.size := fun b h => HO.lt h
  have zg : w2.heap.size ≤ w3.heap.size := hB.size
  replace Q2 := Q2.below hB
  clear hB q0 q1 q2 I2
  obtain ⟨u3, hu3⟩ : ∃ u, (w3.alloc (.cells #[.slice ga0 s.svs.length gac0, .slice ga1 s.post.length gac1, .slice ga2 s.led.length gac2] 36)) = u := ⟨_, rfl⟩
  have kg : u3.cell? ⟨w3.heap.size, 0, none⟩ = some (.slice ga0 s.svs.length gac0) ∧ u3.cell? ⟨w3.heap.size, 1, none⟩ = some (.slice ga1 s.post.length gac1) ∧ u3.cell? ⟨w3.heap.size, 2, none⟩ = some (.slice ga2 s.led.length gac2) := by rw [← hu3]; simp [go_sem]
  have bu3 : Below w3.heap.size w3 u3 := by rw [← hu3]; exact alEl _ _
  have zu3 : u3.heap.size = w3.heap.size + 1 := by rw [← hu3]; simp
  replace BW := stEl BW bu3
  replace B1 := stEl B1 bu3
  replace kv3 := el_keep bu3 kv3
  replace HO := HO.below bu3
  replace Q2 := Q2.below bu3
  have kq := kv3
  obtain ⟨q0, q1, q2⟩ := kq
  have kq := kg
  obtain ⟨j0, j1, j2⟩ := kq
  go_wp2_with fail
  clear hu3 q0 q1 q2 j0 j1 j2
  refine (eqElection_same s _ _ _ _ _ _ _ _ _ _ _ _ _ (HO.reads hz) (TW.below B1) hL).mono ?_
  rintro r w4 ⟨rfl, hB⟩
  replace kv3 := el_keep hB kv3
  replace kg := el_keep hB kg
  replace BW := stEl BW hB
  replace B1 := stEl B1 hB
  replace HO := HO.below hB
  have z4 : u3.heap.size ≤ w4.heap.size := hB.size
  replace Q2 := Q2.below hB
  clear hB
  go_wp2_with fail
  refine (toIntSS_out _ _ L _ (hs.below BW) hl1 hl2).mono ?_
  rintro r w5 ⟨x5, qs5, e5, rfl, Q5, hB⟩
  replace kv3 := el_keep hB kv3
  replace kg := el_keep hB kg
  replace BW := stEl BW hB
  replace B1 := stEl B1 hB
  replace HO := HO.below hB
  replace Q2 := Q2.below hB
  have z5 : w4.heap.size ≤ w5.heap.size := hB.size
  clear hB
  have I2 := Q2.intss (by rw [e2]; exact hl3)
  rw [e2] at I2
  have I5 := Q5.intss (by rw [e5]; exact hl3)
  rw [e5] at I5
  have n5 : qs5.length = L.length := by rw [← e5]; simp
  rw [n5]
  clear Q5 e5 n5
  go_wp2_with fail
  refine (eqIntSS_same _ _ _ _ L _ I2 I5 hm).mono ?_
  rintro r w6 ⟨rfl, hB⟩
  replace kv3 := el_keep hB kv3
  replace kg := el_keep hB kg
  replace BW := stEl BW hB
  replace B1 := stEl B1 hB
  replace HO := HO.below hB
  replace Q2 := Q2.below hB
  have z6 : w5.heap.size ≤ w6.heap.size := hB.size
  clear hB I2 I5
  have hqt : qTo qs2 qs2.length ≤ 1048576 := by rw [qTo_tot e2]; exact htI
  have hqk : ¬ (((1 + qTo qs2 qs2.length : Nat) : Int) < 0) := by omega
  go_wp2_with fail
  refine (mark_outN _ _ (w1.heap.size + 1) 1 _ qs2 _ n2 (OutQ.mono9 Q2 (by omega)) (by omega) (by omega)).mono ?_
  rintro r w7 ⟨rfl, -, hB, hO⟩
  have nX : ∀ b, InQ qs2 b → w1.heap.size + 1 ≤ b ∧ b < w2.heap.size := fun b h => lX b (.inl h)
  have kv7 : w7.cell? ⟨w1.heap.size, 0, none⟩ = some (.slice va0 s.svs.length vac0) ∧ w7.cell? ⟨w1.heap.size, 1, none⟩ = some (.slice va1 s.post.length vac1) ∧ w7.cell? ⟨w1.heap.size, 2, none⟩ = some (.slice va2 s.led.length vac2) := by
    obtain ⟨q0, q1, q2⟩ := kv3
    exact ⟨(hB.cell (p := ⟨w1.heap.size, 0, none⟩) (by simp)).trans q0, (hB.cell (p := ⟨w1.heap.size, 1, none⟩) (by simp)).trans q1, (hB.cell (p := ⟨w1.heap.size, 2, none⟩) (by simp)).trans q2⟩
  have kg7 : w7.cell? ⟨w3.heap.size, 0, none⟩ = some (.slice ga0 s.svs.length gac0) ∧ w7.cell? ⟨w3.heap.size, 1, none⟩ = some (.slice ga1 s.post.length gac1) ∧ w7.cell? ⟨w3.heap.size, 2, none⟩ = some (.slice ga2 s.led.length gac2) := by
    obtain ⟨q0, q1, q2⟩ := kg
    exact ⟨(World.cell?_of_block (a := ⟨w3.heap.size, 0, none⟩) (hO _ (lt_of_cell q0) (fun h => by have := nX w3.heap.size h; omega))).trans q0, (World.cell?_of_block (a := ⟨w3.heap.size, 1, none⟩) (hO _ (lt_of_cell q1) (fun h => by have := nX w3.heap.size h; omega))).trans q1, (World.cell?_of_block (a := ⟨w3.heap.size, 2, none⟩) (hO _ (lt_of_cell q2) (fun h => by have := nX w3.heap.size h; omega))).trans q2⟩
  have HO7 : ElO w7 w2.heap.size s ga0 ga1 ga2 r04 r05 k04 k05 := HO.of_block (fun b h => hO b (HO.lt h).2 (fun h' => by have := nX b h'; have := lG b h; omega))
  replace BW := BW.trans (hB.mono (by omega))
  replace B1 := B1.trans (hB.mono (by omega))
  have z7 : w6.heap.size ≤ w7.heap.size := hB.size
  clear hB hO nX lX Q2 HO kv3 kg
  have kq := kv7
  obtain ⟨q0, q1, q2⟩ := kq
  have kq := kg7
  obtain ⟨j0, j1, j2⟩ := kq
  go_wp2_with fail
  clear q0 q1 q2 j0 j1 j2
  refine (eqElection_same s _ _ _ _ _ _ _ _ _ _ _ _ _ (HO7.reads hz) (TW.below B1) hL).mono ?_
  rintro r w8 ⟨rfl, hB⟩
  have kv3 := el_keep hB kv7
  have kg := el_keep hB kg7
  replace BW := stEl BW hB
  replace B1 := stEl B1 hB
  have HO := HO7.below hB
  have z8 : w7.heap.size ≤ w8.heap.size := hB.size
  clear hB HO7 kv7 kg7
  have kq := kg
  obtain ⟨j0, j1, j2⟩ := kq
  go_wp2_with fail
  clear j0 j1 j2
  refine (markElection_any s 1 w2.heap.size _ _ _ _ _ _ _ _ _ _ _ HO hz (Nat.le_refl _) (by omega)).mono ?_
  rintro r wA ⟨hr, HH, hB, hO⟩
  rw [HKK.out] at hr
  subst hr
  have kvA : wA.cell? ⟨w1.heap.size, 0, none⟩ = some (.slice va0 s.svs.length vac0) ∧ wA.cell? ⟨w1.heap.size, 1, none⟩ = some (.slice va1 s.post.length vac1) ∧ wA.cell? ⟨w1.heap.size, 2, none⟩ = some (.slice va2 s.led.length vac2) := by
    obtain ⟨q0, q1, q2⟩ := kv3
    exact ⟨(hB.cell (p := ⟨w1.heap.size, 0, none⟩) (by show w1.heap.size < _; omega)).trans q0, (hB.cell (p := ⟨w1.heap.size, 1, none⟩) (by show w1.heap.size < _; omega)).trans q1, (hB.cell (p := ⟨w1.heap.size, 2, none⟩) (by show w1.heap.size < _; omega)).trans q2⟩
  have kgA : wA.cell? ⟨w3.heap.size, 0, none⟩ = some (.slice ga0 s.svs.length gac0) ∧ wA.cell? ⟨w3.heap.size, 1, none⟩ = some (.slice ga1 s.post.length gac1) ∧ wA.cell? ⟨w3.heap.size, 2, none⟩ = some (.slice ga2 s.led.length gac2) := by
    obtain ⟨q0, q1, q2⟩ := kg
    exact ⟨(World.cell?_of_block (a := ⟨w3.heap.size, 0, none⟩) (hO _ (lt_of_cell q0) (fun h => by have := lG w3.heap.size h; omega))).trans q0, (World.cell?_of_block (a := ⟨w3.heap.size, 1, none⟩) (hO _ (lt_of_cell q1) (fun h => by have := lG w3.heap.size h; omega))).trans q1, (World.cell?_of_block (a := ⟨w3.heap.size, 2, none⟩) (hO _ (lt_of_cell q2) (fun h => by have := lG w3.heap.size h; omega))).trans q2⟩
  replace BW := BW.trans (hB.mono (by omega))
  replace B1 := B1.trans (hB.mono (by omega))
  clear hB hO HO lG kv3 kg
  have kq := kgA
  obtain ⟨j0, j1, j2⟩ := kq
  go_wp2_with fail
  clear j0 j1 j2
  refine (heldElection_any s 1 w2.heap.size _ _ _ _ _ _ _ _ _ _ _ HH hz (Nat.le_refl _)).mono ?_
  rintro r wB ⟨hr, hB⟩
  rw [HKK.out] at hr
  subst hr
  replace kvA := el_keep hB kvA
  replace kgA := el_keep hB kgA
  replace BW := stEl BW hB
  replace B1 := stEl B1 hB
  replace HH := HH.below hB
  clear hB
  go_wp2_with fail
  refine (toIntSS_out _ _ L _ (hs.below BW) hl1 hl2).mono ?_
  rintro r wC ⟨x9, qs9, e9, rfl, Q9, hB⟩
  replace kvA := el_keep hB kvA
  replace kgA := el_keep hB kgA
  replace BW := stEl BW hB
  replace B1 := stEl B1 hB
  replace HH := HH.below hB
  have I9 := Q9.intss (by rw [e9]; exact hl3)
  rw [e9] at I9
  have n9 : qs9.length = L.length := by rw [← e9]; simp
  rw [n9]
  clear hB Q9 e9 n9
  go_wp2_with fail
  refine (HI.out _ _ _ I9).mono ?_
  rintro r wD ⟨ha0, ha1, ha2, hac0, hac1, hac2, _, _, _, _, rfl, HD, hB⟩
  replace kvA := el_keep hB kvA
  replace kgA := el_keep hB kgA
  replace BW := stEl BW hB
  replace B1 := stEl B1 hB
  replace HH := HH.below hB
  have TD := HD.reads hz
  clear hB HD I9
  obtain ⟨uD, huD⟩ : ∃ u, (wD.alloc (.cells #[.slice ha0 s.svs.length hac0, .slice ha1 s.post.length hac1, .slice ha2 s.led.length hac2] 36)) = u := ⟨_, rfl⟩
  have kh : uD.cell? ⟨wD.heap.size, 0, none⟩ = some (.slice ha0 s.svs.length hac0) ∧ uD.cell? ⟨wD.heap.size, 1, none⟩ = some (.slice ha1 s.post.length hac1) ∧ uD.cell? ⟨wD.heap.size, 2, none⟩ = some (.slice ha2 s.led.length hac2) := by rw [← huD]; simp [go_sem]
  have buD : Below wD.heap.size wD uD := by rw [← huD]; exact alEl _ _
  have zuD : uD.heap.size = wD.heap.size + 1 := by rw [← huD]; simp
  replace BW := stEl BW buD
  replace B1 := stEl B1 buD
  replace kvA := el_keep buD kvA
  replace kgA := el_keep buD kgA
  replace HH := HH.below buD
  replace TD := TD.below buD
  have kq := kvA
  obtain ⟨q0, q1, q2⟩ := kq
  have kq := kh
  obtain ⟨j0, j1, j2⟩ := kq
  go_wp2_with fail
  clear huD q0 q1 q2 j0 j1 j2
  refine (eqElection_same s _ _ _ _ _ _ _ _ _ _ _ _ _ TD (TW.below B1) hL).mono ?_
  rintro r wE ⟨rfl, hB⟩
  replace kgA := el_keep hB kgA
  replace BW := stEl BW hB
  replace HH := HH.below hB
  clear hB TD kh kvA
  obtain ⟨j0, j1, j2⟩ := kgA
  go_wp2_with fail
  clear j0 j1 j2
  refine (heldElection_any s 1 w2.heap.size _ _ _ _ _ _ _ _ _ _ _ HH hz (Nat.le_refl _)).mono ?_
  rintro r wF ⟨hr, hB⟩
  rw [HKK.out] at hr
  subst hr
  replace BW := stEl BW hB
  clear hB HH
  go_wp2
  go_ret
  exact ⟨rfl, BW⟩

/-- Where it is too long the law says nothing. -/
theorem lawElN_big (L : List (List Int)) (la : Option Addr) (lc : Nat) (w : World) (hs : Intss w la L) (hm : L.length ≤ maxLen) (hb : 1048576 < L.length) :
    Calls Try.prog 4 #[.slice la L.length lc] w fun r w' => r = .returned (.bool true) ∧ Below w.heap.size w w' := by
  have hbig : szL L 1048576 < 0 := by
    unfold szL
    rw [if_pos (by omega)]
    omega
  go_enter Try.func4, Try.ntmps4
  go_wp2_with fail
  refine (szIntSS_any _ _ L 1048576 _ hs hm (by omega) (by omega)).mono ?_
  rintro r w0 ⟨rfl, hw⟩
  rw [hw]
  clear hw w0
  go_wp2
  go_ret
  exact ⟨rfl, Below.refl _ _⟩

end Go.Proofs.Ythbhokpjedndaaa
