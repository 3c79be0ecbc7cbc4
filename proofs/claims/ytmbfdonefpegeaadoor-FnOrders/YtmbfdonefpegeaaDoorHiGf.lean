/-
  The search for the least order, the program's side: a step (who ends ahead). Made by mkhig.py.
-/
import Derived.Test.YtmbfdonefpegeaaDoorHiG0
import Derived.Deep.RegionHeld3
import Derived.Deep.LoopGhost
import Derived.WalkMore
namespace Go.Proofs.YtmbfdonefpegeaaDoor
open Go.RowKit

set_option maxRecDepth 100000 in
set_option maxHeartbeats 4000000 in
theorem gof_zero (l : List Cl) (a : Option Addr) (c N : Nat) (fv : Value) : GoC false fv l a c N 0 := by
  intro s ord p q r v w h hgo hlg hle
  have hs128 := hgo.1
  have hlen : (mi s).length = 0 := by unfold mi; rw [List.length_map]; exact hgo.2.1
  have B0 : ∀ o1 o2, Below w.heap.size w ((w.alloc o1).alloc o2) := fun _ _ => stHi (alHi _ _) (alHi _ _)
  go_enter Tryd.func41, Tryd.ntmps41
  go_wp2_with fail
  go_step3
  go_wp2_with fail
  refine (list_any s hs128 _ (h.tab.bel (B0 _ _))).mono ?_
  intro e w2 hz
  obtain ⟨aw, cw, rfl, -, -, -, e4⟩ := hz
  have B2 : Below w.heap.size w w2 := stHi (B0 _ _) e4
  have hR := find_zero (cl := false) hlg hle
  have HA : Hid (GoAns false 0 N fv a c l ord v w (.returned (.bool true)) w2) := GoAns.yes hR (by omega) (h.bel B2) (B2.mono (by have := h.sz; omega)) (Kp.of_below B2) (OwnK.refl _ _)
  rw [hlen]
  clear hR e4
  go_wp2
  go_step3
  go_wp2
  refine wp_loop_rounds 1 ?_
  rw [rounds_succ]
  go_wp2
  try rw [Exit.noGoto_ret]
  go_ret
  exact HA.out

set_option maxRecDepth 100000 in
set_option maxHeartbeats 16000000 in
theorem gof_step (l : List Cl) (a : Option Addr) (c N n : Nat) (hg : goodCl l = true) (fv : Value) (hfv : fv = .func (.func 25) #[] #[]) (IH : Hid (GoC false fv l a c N n)) : GoC false fv l a c N (n + 1) := by
  subst hfv
  obtain ⟨i0, hi, hz0, hz1, hz2⟩ := info_parts Tryd.infoInt
  intro s ord p q r v w h hgo hlg hle
  have hs128 := hgo.1
  have hlen : (mi s).length = n + 1 := by unfold mi; rw [List.length_map]; exact hgo.2.1
  have hn7 := mi_len s
  obtain ⟨u0, hu0⟩ : ∃ u0, ((w.alloc (.cells #[.int .u64 (s : Int)] 67)).alloc (.cells #[.int .i64 p, .int .i64 q, .int .i64 r] 49)) = u0 := ⟨_, rfl⟩
  have B0 : Below w.heap.size w u0 := by rw [← hu0]; exact stHi (alHi _ _) (alHi _ _)
  have z0 : u0.heap.size = w.heap.size + 2 := by rw [← hu0]; simp
  have cS : u0.cell? ⟨w.heap.size, 0, none⟩ = some (.int .u64 (s : Int)) := by rw [← hu0]; simp [go_sem]
  have cV : Vx u0 (w.heap.size + 1) p q r := by rw [← hu0]; simpa using Vx.new (w.alloc _) p q r
  have T0 := h.tab.bel B0
  have hsz := h.sz
  go_enter Tryd.func41, Tryd.ntmps41
  go_wp2_with fail
  go_step3
  go_wp2_with fail
  try rw [hu0]
  refine (list_any s hs128 _ T0).mono ?_
  intro e w2 hz
  obtain ⟨aw, cw, rfl, -, -, e3, e4⟩ := hz
  obtain ⟨I2, R2⟩ := ints_of_owns e3
  have B2 : Below w.heap.size w w2 := stHi B0 e4
  have cS2 := celB e4 cS
  have cV2 := cV.below e4
  have h2 := h.bel B2
  have BN2 : Below N w w2 := B2.mono (by omega)
  have hvb : Hid (∀ b, v.ownBlock = some b → b < w.heap.size) := fun b hb => (h.lt hb).2
  have hz2w := e4.size
  have z0' : Hid (u0.heap.size = w.heap.size + 2) := z0
  have hzz : w.heap.size + 2 ≤ w2.heap.size := by omega
  have hS0 : some w.heap.size ≠ v.ownBlock := fun e => by have := hvb.out _ e.symm; omega
  have hS1 : some (w.heap.size + 1) ≠ v.ownBlock := fun e => by have := hvb.out _ e.symm; omega
  have hM : ∀ b, v.ownBlock = some b → b < u0.heap.size := fun b hb => by have := hvb.out _ hb; omega
  have hM2 : N + 2 < u0.heap.size := by omega
  have hgoodAll : Hid (∀ k, k < l.length → okCl (clA l k) = true ∧ 0 ≤ (clA l k).object ∧ (clA l k).object ≤ 2) := fun k hk => ⟨((goodCl_t hg).1 k hk).1, (okCl_t ((goodCl_t hg).1 k hk).1).2.1⟩
  have h7l := (goodCl_t hg).2
  clear hu0 e3 cS cV T0 e4 z0 hg
  go_wp2
  go_step3
  go_wp2
  go_loopg [20] (mi s).length (fun gn i wr => ∃ (k : Nat) (v1 : Value), gn + k = (mi s).length ∧ i = .int .i64 k ∧ Hid (GoSt wr N (.func (.func 25) #[] #[]) a c l ord v1) ∧ Hid (Below N w wr) ∧ Hid (Kp (N + 2) v w2 wr) ∧ Hid (OwnK v v1 w2.heap.size) ∧ Hid (tried l false n ord s k))
  case atStart => exact ⟨0, v, Nat.add_zero _, rfl, h2, BN2, Kp.refl _ _ _, OwnK.refl _ _, tried_start⟩
  case round =>
    obtain ⟨k, v1, hk, rfl, H1, HB, HK, HV, HT⟩ := hrel
    obtain ⟨wq, hwq⟩ : ∃ wq, wq = wr := ⟨_, rfl⟩
    subst hwq
    obtain ⟨gq, hgq⟩ : ∃ gq, gq = gk := ⟨_, rfl⟩
    subst hgq
    obtain ⟨Iw, Rw⟩ := HK.out.ints hM2 hM I2 R2
    have dS := HK.out.cell (b := w.heap.size) (off := 0) (by omega) (by omega) hS0 cS2
    have dV := HK.out.vx (R := w.heap.size + 1) (by omega) hS1 cV2
    by_cases hlt : k < (mi s).length
    · obtain ⟨m, hm, hzm⟩ := getS hlt
      obtain ⟨hm7, hml, hmo⟩ := gone_mem hgo hm
      obtain ⟨bw, ow, rfl, c0⟩ := Iw k _ (zA_get hlt)
      rw [hzm] at c0
      obtain ⟨x, hx⟩ : ∃ x, clA l m = x := ⟨_, rfl⟩
      have HX : Hid (clA l m = x) := hx
      have HM : Hid ((mem7 s)[k]? = some m) := hm
      have HMO : Hid (¬ (m : Int) ∈ ord) := hmo
      have hki : (k : Int) < ((mi s).length : Int) := by omega
      have hkd : decide ((k : Int) < (n : Int) + 1) = true := by rw [hlen] at hlt; simp; omega
      clear hx hm hmo hzm
      go_wp2
      go_loopg [26] (mi s).length (fun gn i wr => ∃ j : Nat, gn + j = (mi s).length ∧ i = .int .i64 j ∧ Hid (∀ t, t < j → befB false (clA l ((mem7 s).getD t 0)) x = false) ∧ Hid (Below wq.heap.size wq wr))
      case atStart => exact ⟨0, Nat.add_zero _, rfl, fun t ht => absurd ht (Nat.not_lt_zero _), Below.refl _ _⟩
      case round =>
        obtain ⟨j, hj, rfl, HJ, HBB⟩ := hrel
        have hB := HBB.out
        have G2 := H1.out.bel hB
        have gcl := G2.cl
        have gcm := G2.cm
        obtain ⟨mb, mo, ea, a0, a1, a2, a3, a4, a5⟩ := G2.lists m _ (clA_get hml)
        subst ea
        rw [HX.out] at a0 a1 a2 a3 a4 a5
        by_cases hlt2 : j < (mi s).length
        · obtain ⟨o, ho, hzo⟩ := getS hlt2
          obtain ⟨ho7, hol, hoo⟩ := gone_mem hgo ho
          obtain ⟨bw', ow', ea, c1⟩ := (Iw.below hB) j _ (zA_get hlt2)
          simp only [Option.some.injEq, Addr.mk.injEq, and_true] at ea
          obtain ⟨rfl, rfl⟩ := ea
          rw [hzo] at c1
          obtain ⟨mb', mo', ea, b0, b1, b2, b3, b4, b5⟩ := G2.lists o _ (clA_get hol)
          simp only [Option.some.injEq, Addr.mk.injEq, and_true] at ea
          obtain ⟨rfl, rfl⟩ := ea
          obtain ⟨y, hy⟩ : ∃ y, clA l o = y := ⟨_, rfl⟩
          have HY : Hid (clA l o = y) := hy
          rw [hy] at b0 b1 b2 b3 b4 b5
          have HO : Hid ((mem7 s)[j]? = some o) := ho
          have hji : (j : Int) < ((mi s).length : Int) := by omega
          have hoi : (o : Int) < (l.length : Int) := by omega
          have hmi : (m : Int) < (l.length : Int) := by omega
          have kk0 : wr.cell? ⟨N + 1, 0, none⟩ = some (.func (.func 25) #[] #[]) ∧ wr.cell? ⟨N, 0, none⟩ = some (.slice (some ⟨mb, mo, none⟩) l.length c) ∧ wr.cell? ⟨mb, mo + o * 6, none⟩ = some (.int .i64 y.client) ∧ wr.cell? ⟨mb, mo + o * 6 + 1, none⟩ = some (.int .i64 y.object) ∧ wr.cell? ⟨mb, mo + o * 6 + 2, none⟩ = some (.bool y.write) ∧ wr.cell? ⟨mb, mo + o * 6 + 3, none⟩ = some (.int .i64 y.value) ∧ wr.cell? ⟨mb, mo + o * 6 + 4, none⟩ = some (.int .i64 y.beg) ∧ wr.cell? ⟨mb, mo + o * 6 + 5, none⟩ = some (.int .i64 y.fin) ∧ wr.cell? ⟨mb, mo + m * 6, none⟩ = some (.int .i64 x.client) ∧ wr.cell? ⟨mb, mo + m * 6 + 1, none⟩ = some (.int .i64 x.object) ∧ wr.cell? ⟨mb, mo + m * 6 + 2, none⟩ = some (.bool x.write) ∧ wr.cell? ⟨mb, mo + m * 6 + 3, none⟩ = some (.int .i64 x.value) ∧ wr.cell? ⟨mb, mo + m * 6 + 4, none⟩ = some (.int .i64 x.beg) ∧ wr.cell? ⟨mb, mo + m * 6 + 5, none⟩ = some (.int .i64 x.fin) := ⟨gcm, gcl, b0, b1, b2, b3, b4, b5, a0, a1, a2, a3, a4, a5⟩
          clear hy ho hzo hoo
          cases hbf : befB false y x with
          | true =>
            have HNX : Hid (nxtL l false n ord m = []) := nxtL_f (free_no hgo HO.out (by exact (hgoodAll.out m hml).1) (by rw [HY.out, HX.out]; exact hbf))
            go_wp2_with fail
            have BD : Below wr.heap.size wr wr.drew := (Below.refl _ _).drew
            have kk : wr.drew.cell? ⟨N + 1, 0, none⟩ = some (.func (.func 25) #[] #[]) ∧ wr.drew.cell? ⟨N, 0, none⟩ = some (.slice (some ⟨mb, mo, none⟩) l.length c) ∧ wr.drew.cell? ⟨mb, mo + o * 6, none⟩ = some (.int .i64 y.client) ∧ wr.drew.cell? ⟨mb, mo + o * 6 + 1, none⟩ = some (.int .i64 y.object) ∧ wr.drew.cell? ⟨mb, mo + o * 6 + 2, none⟩ = some (.bool y.write) ∧ wr.drew.cell? ⟨mb, mo + o * 6 + 3, none⟩ = some (.int .i64 y.value) ∧ wr.drew.cell? ⟨mb, mo + o * 6 + 4, none⟩ = some (.int .i64 y.beg) ∧ wr.drew.cell? ⟨mb, mo + o * 6 + 5, none⟩ = some (.int .i64 y.fin) ∧ wr.drew.cell? ⟨mb, mo + m * 6, none⟩ = some (.int .i64 x.client) ∧ wr.drew.cell? ⟨mb, mo + m * 6 + 1, none⟩ = some (.int .i64 x.object) ∧ wr.drew.cell? ⟨mb, mo + m * 6 + 2, none⟩ = some (.bool x.write) ∧ wr.drew.cell? ⟨mb, mo + m * 6 + 3, none⟩ = some (.int .i64 x.value) ∧ wr.drew.cell? ⟨mb, mo + m * 6 + 4, none⟩ = some (.int .i64 x.beg) ∧ wr.drew.cell? ⟨mb, mo + m * 6 + 5, none⟩ = some (.int .i64 x.fin) := (by obtain ⟨t0, t1, t2, t3, t4, t5, t6, t7, t8, t9, t10, t11, t12, t13⟩ := kk0; exact ⟨celB BD t0, celB BD t1, celB BD t2, celB BD t3, celB BD t4, celB BD t5, celB BD t6, celB BD t7, celB BD t8, celB BD t9, celB BD t10, celB BD t11, celB BD t12, celB BD t13⟩)
            refine wp_region_noPanic ?_
            refine wp_region_held_drew (S := fun w' => w'.cell? ⟨N + 1, 0, none⟩ = some (.func (.func 25) #[] #[]) ∧ w'.cell? ⟨N, 0, none⟩ = some (.slice (some ⟨mb, mo, none⟩) l.length c) ∧ w'.cell? ⟨mb, mo + o * 6, none⟩ = some (.int .i64 y.client) ∧ w'.cell? ⟨mb, mo + o * 6 + 1, none⟩ = some (.int .i64 y.object) ∧ w'.cell? ⟨mb, mo + o * 6 + 2, none⟩ = some (.bool y.write) ∧ w'.cell? ⟨mb, mo + o * 6 + 3, none⟩ = some (.int .i64 y.value) ∧ w'.cell? ⟨mb, mo + o * 6 + 4, none⟩ = some (.int .i64 y.beg) ∧ w'.cell? ⟨mb, mo + o * 6 + 5, none⟩ = some (.int .i64 y.fin) ∧ w'.cell? ⟨mb, mo + m * 6, none⟩ = some (.int .i64 x.client) ∧ w'.cell? ⟨mb, mo + m * 6 + 1, none⟩ = some (.int .i64 x.object) ∧ w'.cell? ⟨mb, mo + m * 6 + 2, none⟩ = some (.bool x.write) ∧ w'.cell? ⟨mb, mo + m * 6 + 3, none⟩ = some (.int .i64 x.value) ∧ w'.cell? ⟨mb, mo + m * 6 + 4, none⟩ = some (.int .i64 x.beg) ∧ w'.cell? ⟨mb, mo + m * 6 + 5, none⟩ = some (.int .i64 x.fin)) (by kernel_rfl) kk (fun hH => ?_)
            refine wpAnyH_take (i := 0) (oi := ⟨_, _, _, _, _, _⟩) (v := ?va0) rfl (by kernel_rfl) (by kernel_rfl) (by kernel_rfl) (fun _ _ _ h => h) (Or.inl ⟨by rfl, ?ya0⟩) (by assumption) ?ra0
            case ya0 => intro w hSw; (try dsimp only at hSw); go_simp; try with_reducible rfl
            try simp only [Act.put, List.setIfInBounds_toArray, List.set_cons_zero, List.set_cons_succ]
            refine wpAnyH_take (i := 1) (oi := ⟨_, _, _, _, _, _⟩) (v := ?va1) rfl (by kernel_rfl) (by kernel_rfl) (by kernel_rfl) (fun _ _ _ h => h) (Or.inl ⟨by rfl, ?ya1⟩) (by assumption) ?ra1
            case ya1 => intro w hSw; (try dsimp only at hSw); go_simp; try with_reducible rfl
            try simp only [Act.put, List.setIfInBounds_toArray, List.set_cons_zero, List.set_cons_succ]
            refine wpAnyH_take (i := 2) (oi := ⟨_, _, _, _, _, _⟩) (v := ?va2) rfl (by kernel_rfl) (by kernel_rfl) (by kernel_rfl) (fun _ _ _ h => h) (Or.inl ⟨by rfl, ?ya2⟩) (by assumption) ?ra2
            case ya2 => intro w hSw; (try dsimp only at hSw); go_simp; try with_reducible rfl
            try simp only [Act.put, List.setIfInBounds_toArray, List.set_cons_zero, List.set_cons_succ]
            refine wpAnyH_take (i := 3) (oi := ⟨_, _, _, _, _, _⟩) (v := ?va3) rfl (by kernel_rfl) (by kernel_rfl) (by kernel_rfl) (fun _ _ _ h => h) (Or.inl ⟨by rfl, ?ya3⟩) (by assumption) ?ra3
            case ya3 => intro w hSw; (try dsimp only at hSw); go_simp; try with_reducible rfl
            try simp only [Act.put, List.setIfInBounds_toArray, List.set_cons_zero, List.set_cons_succ]
            refine wpAnyH_take (i := 4) (oi := ⟨_, _, _, _, _, _⟩) (v := ?va4) rfl (by kernel_rfl) (by kernel_rfl) (by kernel_rfl) (fun _ _ _ h => h) (Or.inl ⟨by rfl, ?ya4⟩) (by assumption) ?ra4
            case ya4 => intro w hSw; (try dsimp only at hSw); go_simp; try with_reducible rfl
            try simp only [Act.put, List.setIfInBounds_toArray, List.set_cons_zero, List.set_cons_succ]
            refine wpAnyH_take (i := 5) (oi := ⟨_, _, _, _, _, _⟩) (v := ?va5) rfl (by kernel_rfl) (by kernel_rfl) (by kernel_rfl) (fun _ _ _ h => h) (Or.inl ⟨by rfl, ?ya5⟩) (by assumption) ?ra5
            case ya5 => intro w hSw; (try dsimp only at hSw); go_simp; try with_reducible rfl
            try simp only [Act.put, List.setIfInBounds_toArray, List.set_cons_zero, List.set_cons_succ]
            refine wpAnyH_take (i := 6) (oi := ⟨_, _, _, _, _, _⟩) (v := ?va6) rfl (by kernel_rfl) (by kernel_rfl) (by kernel_rfl) (fun _ _ _ h => h) (Or.inl ⟨by rfl, ?ya6⟩) (by assumption) ?ra6
            case ya6 => intro w hSw; (try dsimp only at hSw); go_simp; try with_reducible rfl
            try simp only [Act.put, List.setIfInBounds_toArray, List.set_cons_zero, List.set_cons_succ]
            refine wpAnyH_take (i := 7) (oi := ⟨_, _, _, _, _, _⟩) (v := ?va7) rfl (by kernel_rfl) (by kernel_rfl) (by kernel_rfl) (fun _ _ _ h => h) (Or.inl ⟨by rfl, ?ya7⟩) (by assumption) ?ra7
            case ya7 => intro w hSw; (try dsimp only at hSw); go_simp; try with_reducible rfl
            try simp only [Act.put, List.setIfInBounds_toArray, List.set_cons_zero, List.set_cons_succ]
            refine wpAnyH_take (i := 8) (oi := ⟨_, _, _, _, _, _⟩) (v := ?va8) rfl (by kernel_rfl) (by kernel_rfl) (by kernel_rfl) (fun _ _ _ h => h) (Or.inl ⟨by rfl, ?ya8⟩) (by assumption) ?ra8
            case ya8 => intro w hSw; (try dsimp only at hSw); go_simp; try with_reducible rfl
            try simp only [Act.put, List.setIfInBounds_toArray, List.set_cons_zero, List.set_cons_succ]
            refine wpAnyH_ready (rs := [9]) (by kernel_rfl) (by simp) ?_
            refine AllReadyH.cons (o := ⟨_, _, _, _, _, _⟩) rfl (fun KK hK => ?_) AllReadyH.nil
            go_simp
            refine (endsA_c y x true _ hbf).mono ?_
            rintro e9 W1 ⟨rfl, hBk⟩
            have kk1 : W1.cell? ⟨N + 1, 0, none⟩ = some (.func (.func 25) #[] #[]) ∧ W1.cell? ⟨N, 0, none⟩ = some (.slice (some ⟨mb, mo, none⟩) l.length c) ∧ W1.cell? ⟨mb, mo + o * 6, none⟩ = some (.int .i64 y.client) ∧ W1.cell? ⟨mb, mo + o * 6 + 1, none⟩ = some (.int .i64 y.object) ∧ W1.cell? ⟨mb, mo + o * 6 + 2, none⟩ = some (.bool y.write) ∧ W1.cell? ⟨mb, mo + o * 6 + 3, none⟩ = some (.int .i64 y.value) ∧ W1.cell? ⟨mb, mo + o * 6 + 4, none⟩ = some (.int .i64 y.beg) ∧ W1.cell? ⟨mb, mo + o * 6 + 5, none⟩ = some (.int .i64 y.fin) ∧ W1.cell? ⟨mb, mo + m * 6, none⟩ = some (.int .i64 x.client) ∧ W1.cell? ⟨mb, mo + m * 6 + 1, none⟩ = some (.int .i64 x.object) ∧ W1.cell? ⟨mb, mo + m * 6 + 2, none⟩ = some (.bool x.write) ∧ W1.cell? ⟨mb, mo + m * 6 + 3, none⟩ = some (.int .i64 x.value) ∧ W1.cell? ⟨mb, mo + m * 6 + 4, none⟩ = some (.int .i64 x.beg) ∧ W1.cell? ⟨mb, mo + m * 6 + 5, none⟩ = some (.int .i64 x.fin) := (by obtain ⟨t0, t1, t2, t3, t4, t5, t6, t7, t8, t9, t10, t11, t12, t13⟩ := kk; exact ⟨celB hBk t0, celB hBk t1, celB hBk t2, celB hBk t3, celB hBk t4, celB hBk t5, celB hBk t6, celB hBk t7, celB hBk t8, celB hBk t9, celB hBk t10, celB hBk t11, celB hBk t12, celB hBk t13⟩)
            have BE := stHi BD hBk
            clear hBk
            go_wp2_with fail
            refine hK.out _ _ kk1 (fun hH9 => ?_)
            clear hK KK hH
            try simp only [Act.put, List.setIfInBounds_toArray, List.set_cons_zero, List.set_cons_succ]
            refine wpAnyH_done (by kernel_rfl) (NoPanic.normal ?_) _
            have B9 := stHi hB BE
            have H9 : Hid (GoSt W1 N (.func (.func 25) #[] #[]) (some ⟨mb, mo, none⟩) c l ord v1) := H1.out.bel B9
            have HB9 : Hid (Below N w W1) := HB.out.trans (B9.mono (by have := H1.out.sz; omega))
            have HK9 : Hid (Kp (N + 2) v w2 W1) := HK.out.bel B9
            have HT9 : Hid (tried l false n ord s (k + 1)) := tried_next HT.out HM.out HNX.out
            clear kk kk0 kk1 BE BD B9 hB G2 gcl gcm a0 a1 a2 a3 a4 a5 b0 b1 b2 b3 b4 b5
            go_wp2
            go_roundg (gq - 1)
            case rel => exact ⟨k + 1, v1, by omega, by go_num, H9.out, HB9.out, HK9.out, HV.out, HT9.out⟩
            case measure => omega
          | false =>
            have HN : Hid (∀ t, t < j + 1 → befB false (clA l ((mem7 s).getD t 0)) x = false) := fun t ht => by
              rcases Nat.lt_or_eq_of_le (Nat.le_of_lt_succ ht) with g | rfl
              · exact HJ.out t g
              · rw [List.getD_eq_getElem?_getD, HO.out]; show befB false (clA l o) x = false; rw [HY.out]; exact hbf
            go_wp2_with fail
            have BD : Below wr.heap.size wr wr.drew := (Below.refl _ _).drew
            have kk : wr.drew.cell? ⟨N + 1, 0, none⟩ = some (.func (.func 25) #[] #[]) ∧ wr.drew.cell? ⟨N, 0, none⟩ = some (.slice (some ⟨mb, mo, none⟩) l.length c) ∧ wr.drew.cell? ⟨mb, mo + o * 6, none⟩ = some (.int .i64 y.client) ∧ wr.drew.cell? ⟨mb, mo + o * 6 + 1, none⟩ = some (.int .i64 y.object) ∧ wr.drew.cell? ⟨mb, mo + o * 6 + 2, none⟩ = some (.bool y.write) ∧ wr.drew.cell? ⟨mb, mo + o * 6 + 3, none⟩ = some (.int .i64 y.value) ∧ wr.drew.cell? ⟨mb, mo + o * 6 + 4, none⟩ = some (.int .i64 y.beg) ∧ wr.drew.cell? ⟨mb, mo + o * 6 + 5, none⟩ = some (.int .i64 y.fin) ∧ wr.drew.cell? ⟨mb, mo + m * 6, none⟩ = some (.int .i64 x.client) ∧ wr.drew.cell? ⟨mb, mo + m * 6 + 1, none⟩ = some (.int .i64 x.object) ∧ wr.drew.cell? ⟨mb, mo + m * 6 + 2, none⟩ = some (.bool x.write) ∧ wr.drew.cell? ⟨mb, mo + m * 6 + 3, none⟩ = some (.int .i64 x.value) ∧ wr.drew.cell? ⟨mb, mo + m * 6 + 4, none⟩ = some (.int .i64 x.beg) ∧ wr.drew.cell? ⟨mb, mo + m * 6 + 5, none⟩ = some (.int .i64 x.fin) := (by obtain ⟨t0, t1, t2, t3, t4, t5, t6, t7, t8, t9, t10, t11, t12, t13⟩ := kk0; exact ⟨celB BD t0, celB BD t1, celB BD t2, celB BD t3, celB BD t4, celB BD t5, celB BD t6, celB BD t7, celB BD t8, celB BD t9, celB BD t10, celB BD t11, celB BD t12, celB BD t13⟩)
            refine wp_region_noPanic ?_
            refine wp_region_held_drew (S := fun w' => w'.cell? ⟨N + 1, 0, none⟩ = some (.func (.func 25) #[] #[]) ∧ w'.cell? ⟨N, 0, none⟩ = some (.slice (some ⟨mb, mo, none⟩) l.length c) ∧ w'.cell? ⟨mb, mo + o * 6, none⟩ = some (.int .i64 y.client) ∧ w'.cell? ⟨mb, mo + o * 6 + 1, none⟩ = some (.int .i64 y.object) ∧ w'.cell? ⟨mb, mo + o * 6 + 2, none⟩ = some (.bool y.write) ∧ w'.cell? ⟨mb, mo + o * 6 + 3, none⟩ = some (.int .i64 y.value) ∧ w'.cell? ⟨mb, mo + o * 6 + 4, none⟩ = some (.int .i64 y.beg) ∧ w'.cell? ⟨mb, mo + o * 6 + 5, none⟩ = some (.int .i64 y.fin) ∧ w'.cell? ⟨mb, mo + m * 6, none⟩ = some (.int .i64 x.client) ∧ w'.cell? ⟨mb, mo + m * 6 + 1, none⟩ = some (.int .i64 x.object) ∧ w'.cell? ⟨mb, mo + m * 6 + 2, none⟩ = some (.bool x.write) ∧ w'.cell? ⟨mb, mo + m * 6 + 3, none⟩ = some (.int .i64 x.value) ∧ w'.cell? ⟨mb, mo + m * 6 + 4, none⟩ = some (.int .i64 x.beg) ∧ w'.cell? ⟨mb, mo + m * 6 + 5, none⟩ = some (.int .i64 x.fin)) (by kernel_rfl) kk (fun hH => ?_)
            refine wpAnyH_take (i := 0) (oi := ⟨_, _, _, _, _, _⟩) (v := ?vb0) rfl (by kernel_rfl) (by kernel_rfl) (by kernel_rfl) (fun _ _ _ h => h) (Or.inl ⟨by rfl, ?yb0⟩) (by assumption) ?rb0
            case yb0 => intro w hSw; (try dsimp only at hSw); go_simp; try with_reducible rfl
            try simp only [Act.put, List.setIfInBounds_toArray, List.set_cons_zero, List.set_cons_succ]
            refine wpAnyH_take (i := 1) (oi := ⟨_, _, _, _, _, _⟩) (v := ?vb1) rfl (by kernel_rfl) (by kernel_rfl) (by kernel_rfl) (fun _ _ _ h => h) (Or.inl ⟨by rfl, ?yb1⟩) (by assumption) ?rb1
            case yb1 => intro w hSw; (try dsimp only at hSw); go_simp; try with_reducible rfl
            try simp only [Act.put, List.setIfInBounds_toArray, List.set_cons_zero, List.set_cons_succ]
            refine wpAnyH_take (i := 2) (oi := ⟨_, _, _, _, _, _⟩) (v := ?vb2) rfl (by kernel_rfl) (by kernel_rfl) (by kernel_rfl) (fun _ _ _ h => h) (Or.inl ⟨by rfl, ?yb2⟩) (by assumption) ?rb2
            case yb2 => intro w hSw; (try dsimp only at hSw); go_simp; try with_reducible rfl
            try simp only [Act.put, List.setIfInBounds_toArray, List.set_cons_zero, List.set_cons_succ]
            refine wpAnyH_take (i := 3) (oi := ⟨_, _, _, _, _, _⟩) (v := ?vb3) rfl (by kernel_rfl) (by kernel_rfl) (by kernel_rfl) (fun _ _ _ h => h) (Or.inl ⟨by rfl, ?yb3⟩) (by assumption) ?rb3
            case yb3 => intro w hSw; (try dsimp only at hSw); go_simp; try with_reducible rfl
            try simp only [Act.put, List.setIfInBounds_toArray, List.set_cons_zero, List.set_cons_succ]
            refine wpAnyH_take (i := 4) (oi := ⟨_, _, _, _, _, _⟩) (v := ?vb4) rfl (by kernel_rfl) (by kernel_rfl) (by kernel_rfl) (fun _ _ _ h => h) (Or.inl ⟨by rfl, ?yb4⟩) (by assumption) ?rb4
            case yb4 => intro w hSw; (try dsimp only at hSw); go_simp; try with_reducible rfl
            try simp only [Act.put, List.setIfInBounds_toArray, List.set_cons_zero, List.set_cons_succ]
            refine wpAnyH_take (i := 5) (oi := ⟨_, _, _, _, _, _⟩) (v := ?vb5) rfl (by kernel_rfl) (by kernel_rfl) (by kernel_rfl) (fun _ _ _ h => h) (Or.inl ⟨by rfl, ?yb5⟩) (by assumption) ?rb5
            case yb5 => intro w hSw; (try dsimp only at hSw); go_simp; try with_reducible rfl
            try simp only [Act.put, List.setIfInBounds_toArray, List.set_cons_zero, List.set_cons_succ]
            refine wpAnyH_take (i := 6) (oi := ⟨_, _, _, _, _, _⟩) (v := ?vb6) rfl (by kernel_rfl) (by kernel_rfl) (by kernel_rfl) (fun _ _ _ h => h) (Or.inl ⟨by rfl, ?yb6⟩) (by assumption) ?rb6
            case yb6 => intro w hSw; (try dsimp only at hSw); go_simp; try with_reducible rfl
            try simp only [Act.put, List.setIfInBounds_toArray, List.set_cons_zero, List.set_cons_succ]
            refine wpAnyH_take (i := 7) (oi := ⟨_, _, _, _, _, _⟩) (v := ?vb7) rfl (by kernel_rfl) (by kernel_rfl) (by kernel_rfl) (fun _ _ _ h => h) (Or.inl ⟨by rfl, ?yb7⟩) (by assumption) ?rb7
            case yb7 => intro w hSw; (try dsimp only at hSw); go_simp; try with_reducible rfl
            try simp only [Act.put, List.setIfInBounds_toArray, List.set_cons_zero, List.set_cons_succ]
            refine wpAnyH_take (i := 8) (oi := ⟨_, _, _, _, _, _⟩) (v := ?vb8) rfl (by kernel_rfl) (by kernel_rfl) (by kernel_rfl) (fun _ _ _ h => h) (Or.inl ⟨by rfl, ?yb8⟩) (by assumption) ?rb8
            case yb8 => intro w hSw; (try dsimp only at hSw); go_simp; try with_reducible rfl
            try simp only [Act.put, List.setIfInBounds_toArray, List.set_cons_zero, List.set_cons_succ]
            refine wpAnyH_ready (rs := [9]) (by kernel_rfl) (by simp) ?_
            refine AllReadyH.cons (o := ⟨_, _, _, _, _, _⟩) rfl (fun KK hK => ?_) AllReadyH.nil
            go_simp
            refine (endsA_c y x false _ hbf).mono ?_
            rintro e9 W1 ⟨rfl, hBk⟩
            have kk1 : W1.cell? ⟨N + 1, 0, none⟩ = some (.func (.func 25) #[] #[]) ∧ W1.cell? ⟨N, 0, none⟩ = some (.slice (some ⟨mb, mo, none⟩) l.length c) ∧ W1.cell? ⟨mb, mo + o * 6, none⟩ = some (.int .i64 y.client) ∧ W1.cell? ⟨mb, mo + o * 6 + 1, none⟩ = some (.int .i64 y.object) ∧ W1.cell? ⟨mb, mo + o * 6 + 2, none⟩ = some (.bool y.write) ∧ W1.cell? ⟨mb, mo + o * 6 + 3, none⟩ = some (.int .i64 y.value) ∧ W1.cell? ⟨mb, mo + o * 6 + 4, none⟩ = some (.int .i64 y.beg) ∧ W1.cell? ⟨mb, mo + o * 6 + 5, none⟩ = some (.int .i64 y.fin) ∧ W1.cell? ⟨mb, mo + m * 6, none⟩ = some (.int .i64 x.client) ∧ W1.cell? ⟨mb, mo + m * 6 + 1, none⟩ = some (.int .i64 x.object) ∧ W1.cell? ⟨mb, mo + m * 6 + 2, none⟩ = some (.bool x.write) ∧ W1.cell? ⟨mb, mo + m * 6 + 3, none⟩ = some (.int .i64 x.value) ∧ W1.cell? ⟨mb, mo + m * 6 + 4, none⟩ = some (.int .i64 x.beg) ∧ W1.cell? ⟨mb, mo + m * 6 + 5, none⟩ = some (.int .i64 x.fin) := (by obtain ⟨t0, t1, t2, t3, t4, t5, t6, t7, t8, t9, t10, t11, t12, t13⟩ := kk; exact ⟨celB hBk t0, celB hBk t1, celB hBk t2, celB hBk t3, celB hBk t4, celB hBk t5, celB hBk t6, celB hBk t7, celB hBk t8, celB hBk t9, celB hBk t10, celB hBk t11, celB hBk t12, celB hBk t13⟩)
            have BE := stHi BD hBk
            clear hBk
            go_wp2_with fail
            refine hK.out _ _ kk1 (fun hH9 => ?_)
            clear hK KK hH
            try simp only [Act.put, List.setIfInBounds_toArray, List.set_cons_zero, List.set_cons_succ]
            refine wpAnyH_done (by kernel_rfl) (NoPanic.normal ?_) _
            have B9 : Hid (Below wq.heap.size wq W1) := stHi hB BE
            clear kk kk0 kk1 BE BD hB G2 gcl gcm a0 a1 a2 a3 a4 a5 b0 b1 b2 b3 b4 b5
            go_wp2
            go_roundg (gk - 1)
            case rel => exact ⟨j + 1, by omega, by go_num, HN.out, B9.out⟩
            case measure => omega
        · obtain rfl : j = (mi s).length := by omega
          have HF : Hid (freeTo l false ord m l.length = true) := free_yes hgo HMO.out (by rw [HX.out]; have := HJ.out; unfold mi at this; rw [List.length_map] at this; exact this)
          obtain ⟨v0, v1', v2⟩ := (dV.below hB).cells
          have hmi : (m : Int) < (l.length : Int) := by omega
          have hzr := hB.size
          have HO2 : Hid (0 ≤ x.object ∧ x.object ≤ 2) := by have := (hgoodAll.out m hml).2; rw [HX.out] at this; exact this
          have kkw : wr.cell? ⟨w.heap.size + 1, 0, none⟩ = some (.int .i64 p) ∧ wr.cell? ⟨w.heap.size + 1, 1, none⟩ = some (.int .i64 q) ∧ wr.cell? ⟨w.heap.size + 1, 2, none⟩ = some (.int .i64 r) ∧ wr.cell? ⟨N, 0, none⟩ = some (.slice (some ⟨mb, mo, none⟩) l.length c) ∧ wr.cell? ⟨mb, mo + m * 6, none⟩ = some (.int .i64 x.client) ∧ wr.cell? ⟨mb, mo + m * 6 + 1, none⟩ = some (.int .i64 x.object) ∧ wr.cell? ⟨mb, mo + m * 6 + 2, none⟩ = some (.bool x.write) ∧ wr.cell? ⟨mb, mo + m * 6 + 3, none⟩ = some (.int .i64 x.value) ∧ wr.cell? ⟨mb, mo + m * 6 + 4, none⟩ = some (.int .i64 x.beg) ∧ wr.cell? ⟨mb, mo + m * 6 + 5, none⟩ = some (.int .i64 x.fin) := ⟨v0, v1', v2, gcl, a0, a1, a2, a3, a4, a5⟩
          cases hls : lgS [p, q, r] x with
          | none =>
            have HLG : Hid (lgS [p, q, r] x = none) := hls
            have HNX : Hid (nxtL l false n ord m = []) := by show _ = _; rw [nxtL_t HF.out]; exact findL_bad (legB_snoc_no hlg (by rw [HX.out]; exact hls))
            clear hls
            go_wp2_with fail
            have BD : Below wr.heap.size wr wr.drew := (Below.refl _ _).drew
            have kk : wr.drew.cell? ⟨w.heap.size + 1, 0, none⟩ = some (.int .i64 p) ∧ wr.drew.cell? ⟨w.heap.size + 1, 1, none⟩ = some (.int .i64 q) ∧ wr.drew.cell? ⟨w.heap.size + 1, 2, none⟩ = some (.int .i64 r) ∧ wr.drew.cell? ⟨N, 0, none⟩ = some (.slice (some ⟨mb, mo, none⟩) l.length c) ∧ wr.drew.cell? ⟨mb, mo + m * 6, none⟩ = some (.int .i64 x.client) ∧ wr.drew.cell? ⟨mb, mo + m * 6 + 1, none⟩ = some (.int .i64 x.object) ∧ wr.drew.cell? ⟨mb, mo + m * 6 + 2, none⟩ = some (.bool x.write) ∧ wr.drew.cell? ⟨mb, mo + m * 6 + 3, none⟩ = some (.int .i64 x.value) ∧ wr.drew.cell? ⟨mb, mo + m * 6 + 4, none⟩ = some (.int .i64 x.beg) ∧ wr.drew.cell? ⟨mb, mo + m * 6 + 5, none⟩ = some (.int .i64 x.fin) := (by obtain ⟨t0, t1, t2, t3, t4, t5, t6, t7, t8, t9⟩ := kkw; exact ⟨celB BD t0, celB BD t1, celB BD t2, celB BD t3, celB BD t4, celB BD t5, celB BD t6, celB BD t7, celB BD t8, celB BD t9⟩)
            refine wp_region_noPanic ?_
            refine wp_region_held_drew (S := fun w' => w'.cell? ⟨w.heap.size + 1, 0, none⟩ = some (.int .i64 p) ∧ w'.cell? ⟨w.heap.size + 1, 1, none⟩ = some (.int .i64 q) ∧ w'.cell? ⟨w.heap.size + 1, 2, none⟩ = some (.int .i64 r) ∧ w'.cell? ⟨N, 0, none⟩ = some (.slice (some ⟨mb, mo, none⟩) l.length c) ∧ w'.cell? ⟨mb, mo + m * 6, none⟩ = some (.int .i64 x.client) ∧ w'.cell? ⟨mb, mo + m * 6 + 1, none⟩ = some (.int .i64 x.object) ∧ w'.cell? ⟨mb, mo + m * 6 + 2, none⟩ = some (.bool x.write) ∧ w'.cell? ⟨mb, mo + m * 6 + 3, none⟩ = some (.int .i64 x.value) ∧ w'.cell? ⟨mb, mo + m * 6 + 4, none⟩ = some (.int .i64 x.beg) ∧ w'.cell? ⟨mb, mo + m * 6 + 5, none⟩ = some (.int .i64 x.fin)) (by kernel_rfl) kk (fun hH => ?_)
            refine wpAnyH_take (i := 0) (oi := ⟨_, _, _, _, _, _⟩) (v := ?vf0) rfl (by kernel_rfl) (by kernel_rfl) (by kernel_rfl) (fun _ _ _ h => h) (Or.inl ⟨by rfl, ?yf0⟩) (by assumption) ?rf0
            case yf0 => intro w hSw; (try dsimp only at hSw); go_simp; try with_reducible rfl
            try simp only [Act.put, List.setIfInBounds_toArray, List.set_cons_zero, List.set_cons_succ]
            refine wpAnyH_take (i := 1) (oi := ⟨_, _, _, _, _, _⟩) (v := ?vf1) rfl (by kernel_rfl) (by kernel_rfl) (by kernel_rfl) (fun _ _ _ h => h) (Or.inl ⟨by rfl, ?yf1⟩) (by assumption) ?rf1
            case yf1 => intro w hSw; (try dsimp only at hSw); go_simp; try with_reducible rfl
            try simp only [Act.put, List.setIfInBounds_toArray, List.set_cons_zero, List.set_cons_succ]
            refine wpAnyH_take (i := 2) (oi := ⟨_, _, _, _, _, _⟩) (v := ?vf2) rfl (by kernel_rfl) (by kernel_rfl) (by kernel_rfl) (fun _ _ _ h => h) (Or.inl ⟨by rfl, ?yf2⟩) (by assumption) ?rf2
            case yf2 => intro w hSw; (try dsimp only at hSw); go_simp; try with_reducible rfl
            try simp only [Act.put, List.setIfInBounds_toArray, List.set_cons_zero, List.set_cons_succ]
            refine wpAnyH_take (i := 3) (oi := ⟨_, _, _, _, _, _⟩) (v := ?vf3) rfl (by kernel_rfl) (by kernel_rfl) (by kernel_rfl) (fun _ _ _ h => h) (Or.inl ⟨by rfl, ?yf3⟩) (by assumption) ?rf3
            case yf3 => intro w hSw; (try dsimp only at hSw); go_simp; try with_reducible rfl
            try simp only [Act.put, List.setIfInBounds_toArray, List.set_cons_zero, List.set_cons_succ]
            refine wpAnyH_take (i := 4) (oi := ⟨_, _, _, _, _, _⟩) (v := ?vf4) rfl (by kernel_rfl) (by kernel_rfl) (by kernel_rfl) (fun _ _ _ h => h) (Or.inl ⟨by rfl, ?yf4⟩) (by assumption) ?rf4
            case yf4 => intro w hSw; (try dsimp only at hSw); go_simp; try with_reducible rfl
            try simp only [Act.put, List.setIfInBounds_toArray, List.set_cons_zero, List.set_cons_succ]
            refine wpAnyH_ready (rs := [5, 9]) (by kernel_rfl) (by simp) ?_
            refine AllReadyH.cons (o := ⟨_, _, _, _, _, _⟩) rfl (fun KK hK => ?f1) (AllReadyH.cons (o := ⟨_, _, _, _, _, _⟩) rfl (fun KK hK => ?f2) AllReadyH.nil)
            case f1 =>
              go_simp
              refine (behind_f p q r x _ HO2.out HLG.out).mono ?_
              rintro r9 wa ⟨rfl, hBa⟩
              have Ba := stHi BD hBa
              have kk1 : wa.cell? ⟨w.heap.size + 1, 0, none⟩ = some (.int .i64 p) ∧ wa.cell? ⟨w.heap.size + 1, 1, none⟩ = some (.int .i64 q) ∧ wa.cell? ⟨w.heap.size + 1, 2, none⟩ = some (.int .i64 r) ∧ wa.cell? ⟨N, 0, none⟩ = some (.slice (some ⟨mb, mo, none⟩) l.length c) ∧ wa.cell? ⟨mb, mo + m * 6, none⟩ = some (.int .i64 x.client) ∧ wa.cell? ⟨mb, mo + m * 6 + 1, none⟩ = some (.int .i64 x.object) ∧ wa.cell? ⟨mb, mo + m * 6 + 2, none⟩ = some (.bool x.write) ∧ wa.cell? ⟨mb, mo + m * 6 + 3, none⟩ = some (.int .i64 x.value) ∧ wa.cell? ⟨mb, mo + m * 6 + 4, none⟩ = some (.int .i64 x.beg) ∧ wa.cell? ⟨mb, mo + m * 6 + 5, none⟩ = some (.int .i64 x.fin) := (by obtain ⟨t0, t1, t2, t3, t4, t5, t6, t7, t8, t9⟩ := kk; exact ⟨celB hBa t0, celB hBa t1, celB hBa t2, celB hBa t3, celB hBa t4, celB hBa t5, celB hBa t6, celB hBa t7, celB hBa t8, celB hBa t9⟩)
              go_wp2_with fail
              refine hK.out _ _ kk1 (fun hH5 => ?_)
              clear hK KK hH
              try simp only [Act.put, List.setIfInBounds_toArray, List.set_cons_zero, List.set_cons_succ]
              refine wpAnyH_take (i := 6) (oi := ⟨_, _, _, _, _, _⟩) (v := ?vfa6) rfl (by kernel_rfl) (by kernel_rfl) (by kernel_rfl) (fun _ _ _ h => h) (Or.inl ⟨by rfl, ?yfa6⟩) (by assumption) ?rfa6
              case yfa6 => intro w hSw; (try dsimp only at hSw); go_simp; try with_reducible rfl
              try simp only [Act.put, List.setIfInBounds_toArray, List.set_cons_zero, List.set_cons_succ]
              refine wpAnyH_take (i := 7) (oi := ⟨_, _, _, _, _, _⟩) (v := ?vfa7) rfl (by kernel_rfl) (by kernel_rfl) (by kernel_rfl) (fun _ _ _ h => h) (Or.inl ⟨by rfl, ?yfa7⟩) (by assumption) ?rfa7
              case yfa7 => intro w hSw; (try dsimp only at hSw); go_simp; try with_reducible rfl
              try simp only [Act.put, List.setIfInBounds_toArray, List.set_cons_zero, List.set_cons_succ]
              refine wpAnyH_take (i := 8) (oi := ⟨_, _, _, _, _, _⟩) (v := ?vfa8) rfl (by kernel_rfl) (by kernel_rfl) (by kernel_rfl) (fun _ _ _ h => h) (Or.inl ⟨by rfl, ?yfa8⟩) (by assumption) ?rfa8
              case yfa8 => intro w hSw; (try dsimp only at hSw); go_simp; try with_reducible rfl
              try simp only [Act.put, List.setIfInBounds_toArray, List.set_cons_zero, List.set_cons_succ]
              refine wpAnyH_ready (rs := [9]) (by kernel_rfl) (by simp) ?_
              refine AllReadyH.cons (o := ⟨_, _, _, _, _, _⟩) rfl (fun KK hK => ?_) AllReadyH.nil
              go_simp
              have kk2 : (wa.alloc (.cells #[.int .i64 0, .int .i64 0, .int .i64 0] 49)).cell? ⟨w.heap.size + 1, 0, none⟩ = some (.int .i64 p) ∧ (wa.alloc (.cells #[.int .i64 0, .int .i64 0, .int .i64 0] 49)).cell? ⟨w.heap.size + 1, 1, none⟩ = some (.int .i64 q) ∧ (wa.alloc (.cells #[.int .i64 0, .int .i64 0, .int .i64 0] 49)).cell? ⟨w.heap.size + 1, 2, none⟩ = some (.int .i64 r) ∧ (wa.alloc (.cells #[.int .i64 0, .int .i64 0, .int .i64 0] 49)).cell? ⟨N, 0, none⟩ = some (.slice (some ⟨mb, mo, none⟩) l.length c) ∧ (wa.alloc (.cells #[.int .i64 0, .int .i64 0, .int .i64 0] 49)).cell? ⟨mb, mo + m * 6, none⟩ = some (.int .i64 x.client) ∧ (wa.alloc (.cells #[.int .i64 0, .int .i64 0, .int .i64 0] 49)).cell? ⟨mb, mo + m * 6 + 1, none⟩ = some (.int .i64 x.object) ∧ (wa.alloc (.cells #[.int .i64 0, .int .i64 0, .int .i64 0] 49)).cell? ⟨mb, mo + m * 6 + 2, none⟩ = some (.bool x.write) ∧ (wa.alloc (.cells #[.int .i64 0, .int .i64 0, .int .i64 0] 49)).cell? ⟨mb, mo + m * 6 + 3, none⟩ = some (.int .i64 x.value) ∧ (wa.alloc (.cells #[.int .i64 0, .int .i64 0, .int .i64 0] 49)).cell? ⟨mb, mo + m * 6 + 4, none⟩ = some (.int .i64 x.beg) ∧ (wa.alloc (.cells #[.int .i64 0, .int .i64 0, .int .i64 0] 49)).cell? ⟨mb, mo + m * 6 + 5, none⟩ = some (.int .i64 x.fin) := (by obtain ⟨t0, t1, t2, t3, t4, t5, t6, t7, t8, t9⟩ := kk1; exact ⟨celB (alHi wa _) t0, celB (alHi wa _) t1, celB (alHi wa _) t2, celB (alHi wa _) t3, celB (alHi wa _) t4, celB (alHi wa _) t5, celB (alHi wa _) t6, celB (alHi wa _) t7, celB (alHi wa _) t8, celB (alHi wa _) t9⟩)
              refine hK.out _ _ kk2 (fun hH9 => ?_)
              clear hK KK hH5
              try simp only [Act.put, List.setIfInBounds_toArray, List.set_cons_zero, List.set_cons_succ]
              refine wpAnyH_ready (rs := [10]) (by kernel_rfl) (by simp) ?_
              refine AllReadyH.cons (o := ⟨_, _, _, _, _, _⟩) rfl (fun KK hK => ?_) AllReadyH.nil
              go_simp
              have Bp : Below wr.heap.size wr (wa.alloc (.cells #[.int .i64 p, .int .i64 q, .int .i64 r] 49)) := stHi Ba (alHi wa _)
              have kk3 : (wa.alloc (.cells #[.int .i64 p, .int .i64 q, .int .i64 r] 49)).cell? ⟨w.heap.size + 1, 0, none⟩ = some (.int .i64 p) ∧ (wa.alloc (.cells #[.int .i64 p, .int .i64 q, .int .i64 r] 49)).cell? ⟨w.heap.size + 1, 1, none⟩ = some (.int .i64 q) ∧ (wa.alloc (.cells #[.int .i64 p, .int .i64 q, .int .i64 r] 49)).cell? ⟨w.heap.size + 1, 2, none⟩ = some (.int .i64 r) ∧ (wa.alloc (.cells #[.int .i64 p, .int .i64 q, .int .i64 r] 49)).cell? ⟨N, 0, none⟩ = some (.slice (some ⟨mb, mo, none⟩) l.length c) ∧ (wa.alloc (.cells #[.int .i64 p, .int .i64 q, .int .i64 r] 49)).cell? ⟨mb, mo + m * 6, none⟩ = some (.int .i64 x.client) ∧ (wa.alloc (.cells #[.int .i64 p, .int .i64 q, .int .i64 r] 49)).cell? ⟨mb, mo + m * 6 + 1, none⟩ = some (.int .i64 x.object) ∧ (wa.alloc (.cells #[.int .i64 p, .int .i64 q, .int .i64 r] 49)).cell? ⟨mb, mo + m * 6 + 2, none⟩ = some (.bool x.write) ∧ (wa.alloc (.cells #[.int .i64 p, .int .i64 q, .int .i64 r] 49)).cell? ⟨mb, mo + m * 6 + 3, none⟩ = some (.int .i64 x.value) ∧ (wa.alloc (.cells #[.int .i64 p, .int .i64 q, .int .i64 r] 49)).cell? ⟨mb, mo + m * 6 + 4, none⟩ = some (.int .i64 x.beg) ∧ (wa.alloc (.cells #[.int .i64 p, .int .i64 q, .int .i64 r] 49)).cell? ⟨mb, mo + m * 6 + 5, none⟩ = some (.int .i64 x.fin) := (by obtain ⟨t0, t1, t2, t3, t4, t5, t6, t7, t8, t9⟩ := kkw; exact ⟨celB Bp t0, celB Bp t1, celB Bp t2, celB Bp t3, celB Bp t4, celB Bp t5, celB Bp t6, celB Bp t7, celB Bp t8, celB Bp t9⟩)
              have PV := Vx.new wa p q r
              have hP : wr.heap.size ≤ wa.heap.size := Ba.size
              refine hK.out _ _ kk3 (fun hH10 => ?_)
              clear hK KK hH9
              try simp only [Act.put, List.setIfInBounds_toArray, List.set_cons_zero, List.set_cons_succ]
              refine wpAnyH_take (i := 11) (oi := ⟨_, _, _, _, _, _⟩) (v := ?vfa11) rfl (by kernel_rfl) (by kernel_rfl) (by kernel_rfl) (fun _ _ _ h => h) (Or.inl ⟨by rfl, ?yfa11⟩) (by assumption) ?rfa11
              case yfa11 => intro w hSw; (try dsimp only at hSw); go_simp; try with_reducible rfl
              try simp only [Act.put, List.setIfInBounds_toArray, List.set_cons_zero, List.set_cons_succ]
              refine wpAnyH_done (by kernel_rfl) (NoPanic.normal ?_) _
              clear hBa kk2
              generalize (wa.alloc (.cells #[.int .i64 p, .int .i64 q, .int .i64 r] 49)) = u9 at *
              generalize wa.heap.size = P at *
              have B9 := stHi hB Bp
              have H9 : Hid (GoSt u9 N (.func (.func 25) #[] #[]) (some ⟨mb, mo, none⟩) c l ord v1) := H1.out.bel B9
              have HB9 : Hid (Below N w u9) := HB.out.trans (B9.mono (by have := H1.out.sz; omega))
              have HK9 : Hid (Kp (N + 2) v w2 u9) := HK.out.bel B9
              have HT9 : Hid (tried l false n ord s (k + 1)) := tried_next HT.out HM.out HNX.out
              obtain ⟨e0, e1, e2⟩ := PV.cells
              (try clear kk1)
              clear PV kk3 hH10 BD Ba Bp B9
              go_wp2
              go_roundg (gq - 1)
              case rel => exact ⟨k + 1, v1, by omega, by go_num, H9.out, HB9.out, HK9.out, HV.out, HT9.out⟩
              case measure => omega
            case f2 =>
              go_simp
              have Bo : Below wr.heap.size wr (wr.drew.alloc (.cells #[.int .i64 0, .int .i64 0, .int .i64 0] 49)) := stHi BD (alHi wr.drew _)
              have kk1 : (wr.drew.alloc (.cells #[.int .i64 0, .int .i64 0, .int .i64 0] 49)).cell? ⟨w.heap.size + 1, 0, none⟩ = some (.int .i64 p) ∧ (wr.drew.alloc (.cells #[.int .i64 0, .int .i64 0, .int .i64 0] 49)).cell? ⟨w.heap.size + 1, 1, none⟩ = some (.int .i64 q) ∧ (wr.drew.alloc (.cells #[.int .i64 0, .int .i64 0, .int .i64 0] 49)).cell? ⟨w.heap.size + 1, 2, none⟩ = some (.int .i64 r) ∧ (wr.drew.alloc (.cells #[.int .i64 0, .int .i64 0, .int .i64 0] 49)).cell? ⟨N, 0, none⟩ = some (.slice (some ⟨mb, mo, none⟩) l.length c) ∧ (wr.drew.alloc (.cells #[.int .i64 0, .int .i64 0, .int .i64 0] 49)).cell? ⟨mb, mo + m * 6, none⟩ = some (.int .i64 x.client) ∧ (wr.drew.alloc (.cells #[.int .i64 0, .int .i64 0, .int .i64 0] 49)).cell? ⟨mb, mo + m * 6 + 1, none⟩ = some (.int .i64 x.object) ∧ (wr.drew.alloc (.cells #[.int .i64 0, .int .i64 0, .int .i64 0] 49)).cell? ⟨mb, mo + m * 6 + 2, none⟩ = some (.bool x.write) ∧ (wr.drew.alloc (.cells #[.int .i64 0, .int .i64 0, .int .i64 0] 49)).cell? ⟨mb, mo + m * 6 + 3, none⟩ = some (.int .i64 x.value) ∧ (wr.drew.alloc (.cells #[.int .i64 0, .int .i64 0, .int .i64 0] 49)).cell? ⟨mb, mo + m * 6 + 4, none⟩ = some (.int .i64 x.beg) ∧ (wr.drew.alloc (.cells #[.int .i64 0, .int .i64 0, .int .i64 0] 49)).cell? ⟨mb, mo + m * 6 + 5, none⟩ = some (.int .i64 x.fin) := (by obtain ⟨t0, t1, t2, t3, t4, t5, t6, t7, t8, t9⟩ := kk; exact ⟨celB (alHi wr.drew _) t0, celB (alHi wr.drew _) t1, celB (alHi wr.drew _) t2, celB (alHi wr.drew _) t3, celB (alHi wr.drew _) t4, celB (alHi wr.drew _) t5, celB (alHi wr.drew _) t6, celB (alHi wr.drew _) t7, celB (alHi wr.drew _) t8, celB (alHi wr.drew _) t9⟩)
              refine hK.out _ _ kk1 (fun hH5 => ?_)
              clear hK KK hH
              try simp only [Act.put, List.setIfInBounds_toArray, List.set_cons_zero, List.set_cons_succ]
              refine wpAnyH_ready (rs := [5]) (by kernel_rfl) (by simp) ?_
              refine AllReadyH.cons (o := ⟨_, _, _, _, _, _⟩) rfl (fun KK hK => ?_) AllReadyH.nil
              go_simp
              refine (behind_f p q r x _ HO2.out HLG.out).mono ?_
              rintro r9 wa ⟨rfl, hBa⟩
              have Ba := stHi Bo hBa
              have kk2 : wa.cell? ⟨w.heap.size + 1, 0, none⟩ = some (.int .i64 p) ∧ wa.cell? ⟨w.heap.size + 1, 1, none⟩ = some (.int .i64 q) ∧ wa.cell? ⟨w.heap.size + 1, 2, none⟩ = some (.int .i64 r) ∧ wa.cell? ⟨N, 0, none⟩ = some (.slice (some ⟨mb, mo, none⟩) l.length c) ∧ wa.cell? ⟨mb, mo + m * 6, none⟩ = some (.int .i64 x.client) ∧ wa.cell? ⟨mb, mo + m * 6 + 1, none⟩ = some (.int .i64 x.object) ∧ wa.cell? ⟨mb, mo + m * 6 + 2, none⟩ = some (.bool x.write) ∧ wa.cell? ⟨mb, mo + m * 6 + 3, none⟩ = some (.int .i64 x.value) ∧ wa.cell? ⟨mb, mo + m * 6 + 4, none⟩ = some (.int .i64 x.beg) ∧ wa.cell? ⟨mb, mo + m * 6 + 5, none⟩ = some (.int .i64 x.fin) := (by obtain ⟨t0, t1, t2, t3, t4, t5, t6, t7, t8, t9⟩ := kk1; exact ⟨celB hBa t0, celB hBa t1, celB hBa t2, celB hBa t3, celB hBa t4, celB hBa t5, celB hBa t6, celB hBa t7, celB hBa t8, celB hBa t9⟩)
              have PV0 : Vx wa wr.heap.size 0 0 0 := by simpa using (Vx.new wr.drew 0 0 0).below hBa
              go_wp2_with fail
              refine hK.out _ _ kk2 (fun hH9 => ?_)
              clear hK KK hH5
              try simp only [Act.put, List.setIfInBounds_toArray, List.set_cons_zero, List.set_cons_succ]
              refine wpAnyH_take (i := 6) (oi := ⟨_, _, _, _, _, _⟩) (v := ?vfb6) rfl (by kernel_rfl) (by kernel_rfl) (by kernel_rfl) (fun _ _ _ h => h) (Or.inl ⟨by rfl, ?yfb6⟩) (by assumption) ?rfb6
              case yfb6 => intro w hSw; (try dsimp only at hSw); go_simp; try with_reducible rfl
              try simp only [Act.put, List.setIfInBounds_toArray, List.set_cons_zero, List.set_cons_succ]
              refine wpAnyH_take (i := 7) (oi := ⟨_, _, _, _, _, _⟩) (v := ?vfb7) rfl (by kernel_rfl) (by kernel_rfl) (by kernel_rfl) (fun _ _ _ h => h) (Or.inl ⟨by rfl, ?yfb7⟩) (by assumption) ?rfb7
              case yfb7 => intro w hSw; (try dsimp only at hSw); go_simp; try with_reducible rfl
              try simp only [Act.put, List.setIfInBounds_toArray, List.set_cons_zero, List.set_cons_succ]
              refine wpAnyH_take (i := 8) (oi := ⟨_, _, _, _, _, _⟩) (v := ?vfb8) rfl (by kernel_rfl) (by kernel_rfl) (by kernel_rfl) (fun _ _ _ h => h) (Or.inl ⟨by rfl, ?yfb8⟩) (by assumption) ?rfb8
              case yfb8 => intro w hSw; (try dsimp only at hSw); go_simp; try with_reducible rfl
              try simp only [Act.put, List.setIfInBounds_toArray, List.set_cons_zero, List.set_cons_succ]
              refine wpAnyH_ready (rs := [10]) (by kernel_rfl) (by simp) ?_
              refine AllReadyH.cons (o := ⟨_, _, _, _, _, _⟩) rfl (fun KK hK => ?_) AllReadyH.nil
              have PVf : ∀ i, wa.frozen? ⟨wr.heap.size, i, none⟩ = false := fun i => World.rowIs.frozen PV0 i
              obtain ⟨PV1, PV2, PV3⟩ := PV0.cells
              go_simp
              have Bp : Below wr.heap.size wr ((((wa).setCell ⟨wr.heap.size, 0, none⟩ (.int .i64 p)).setCell ⟨wr.heap.size, 1, none⟩ (.int .i64 q)).setCell ⟨wr.heap.size, 2, none⟩ (.int .i64 r)) := ((Ba.setCell (Nat.le_refl _) _).setCell (Nat.le_refl _) _).setCell (Nat.le_refl _) _
              have kk3 : ((((wa).setCell ⟨wr.heap.size, 0, none⟩ (.int .i64 p)).setCell ⟨wr.heap.size, 1, none⟩ (.int .i64 q)).setCell ⟨wr.heap.size, 2, none⟩ (.int .i64 r)).cell? ⟨w.heap.size + 1, 0, none⟩ = some (.int .i64 p) ∧ ((((wa).setCell ⟨wr.heap.size, 0, none⟩ (.int .i64 p)).setCell ⟨wr.heap.size, 1, none⟩ (.int .i64 q)).setCell ⟨wr.heap.size, 2, none⟩ (.int .i64 r)).cell? ⟨w.heap.size + 1, 1, none⟩ = some (.int .i64 q) ∧ ((((wa).setCell ⟨wr.heap.size, 0, none⟩ (.int .i64 p)).setCell ⟨wr.heap.size, 1, none⟩ (.int .i64 q)).setCell ⟨wr.heap.size, 2, none⟩ (.int .i64 r)).cell? ⟨w.heap.size + 1, 2, none⟩ = some (.int .i64 r) ∧ ((((wa).setCell ⟨wr.heap.size, 0, none⟩ (.int .i64 p)).setCell ⟨wr.heap.size, 1, none⟩ (.int .i64 q)).setCell ⟨wr.heap.size, 2, none⟩ (.int .i64 r)).cell? ⟨N, 0, none⟩ = some (.slice (some ⟨mb, mo, none⟩) l.length c) ∧ ((((wa).setCell ⟨wr.heap.size, 0, none⟩ (.int .i64 p)).setCell ⟨wr.heap.size, 1, none⟩ (.int .i64 q)).setCell ⟨wr.heap.size, 2, none⟩ (.int .i64 r)).cell? ⟨mb, mo + m * 6, none⟩ = some (.int .i64 x.client) ∧ ((((wa).setCell ⟨wr.heap.size, 0, none⟩ (.int .i64 p)).setCell ⟨wr.heap.size, 1, none⟩ (.int .i64 q)).setCell ⟨wr.heap.size, 2, none⟩ (.int .i64 r)).cell? ⟨mb, mo + m * 6 + 1, none⟩ = some (.int .i64 x.object) ∧ ((((wa).setCell ⟨wr.heap.size, 0, none⟩ (.int .i64 p)).setCell ⟨wr.heap.size, 1, none⟩ (.int .i64 q)).setCell ⟨wr.heap.size, 2, none⟩ (.int .i64 r)).cell? ⟨mb, mo + m * 6 + 2, none⟩ = some (.bool x.write) ∧ ((((wa).setCell ⟨wr.heap.size, 0, none⟩ (.int .i64 p)).setCell ⟨wr.heap.size, 1, none⟩ (.int .i64 q)).setCell ⟨wr.heap.size, 2, none⟩ (.int .i64 r)).cell? ⟨mb, mo + m * 6 + 3, none⟩ = some (.int .i64 x.value) ∧ ((((wa).setCell ⟨wr.heap.size, 0, none⟩ (.int .i64 p)).setCell ⟨wr.heap.size, 1, none⟩ (.int .i64 q)).setCell ⟨wr.heap.size, 2, none⟩ (.int .i64 r)).cell? ⟨mb, mo + m * 6 + 4, none⟩ = some (.int .i64 x.beg) ∧ ((((wa).setCell ⟨wr.heap.size, 0, none⟩ (.int .i64 p)).setCell ⟨wr.heap.size, 1, none⟩ (.int .i64 q)).setCell ⟨wr.heap.size, 2, none⟩ (.int .i64 r)).cell? ⟨mb, mo + m * 6 + 5, none⟩ = some (.int .i64 x.fin) := (by obtain ⟨t0, t1, t2, t3, t4, t5, t6, t7, t8, t9⟩ := kkw; exact ⟨celB Bp t0, celB Bp t1, celB Bp t2, celB Bp t3, celB Bp t4, celB Bp t5, celB Bp t6, celB Bp t7, celB Bp t8, celB Bp t9⟩)
              have PV := PV0.put p q r
              refine hK.out _ _ kk3 (fun hH10 => ?_)
              clear hK KK hH9
              try simp only [Act.put, List.setIfInBounds_toArray, List.set_cons_zero, List.set_cons_succ]
              refine wpAnyH_take (i := 11) (oi := ⟨_, _, _, _, _, _⟩) (v := ?vfb11) rfl (by kernel_rfl) (by kernel_rfl) (by kernel_rfl) (fun _ _ _ h => h) (Or.inl ⟨by rfl, ?yfb11⟩) (by assumption) ?rfb11
              case yfb11 => intro w hSw; (try dsimp only at hSw); go_simp; try with_reducible rfl
              try simp only [Act.put, List.setIfInBounds_toArray, List.set_cons_zero, List.set_cons_succ]
              refine wpAnyH_done (by kernel_rfl) (NoPanic.normal ?_) _
              clear hBa kk2 kk1 Bo PV0 PVf PV1 PV2 PV3
              generalize (((wa).setCell ⟨wr.heap.size, 0, none⟩ (.int .i64 p)).setCell ⟨wr.heap.size, 1, none⟩ (.int .i64 q)).setCell ⟨wr.heap.size, 2, none⟩ (.int .i64 r) = u9 at *
              obtain ⟨P, hPe⟩ : ∃ P, wr.heap.size = P := ⟨_, rfl⟩
              have PV9 : Vx u9 P p q r := by rw [← hPe]; exact PV
              have hP : wr.heap.size ≤ P := Nat.le_of_eq hPe
              replace PV := PV9
              clear PV9
              rw [hPe]
              clear hPe
              have B9 := stHi hB Bp
              have H9 : Hid (GoSt u9 N (.func (.func 25) #[] #[]) (some ⟨mb, mo, none⟩) c l ord v1) := H1.out.bel B9
              have HB9 : Hid (Below N w u9) := HB.out.trans (B9.mono (by have := H1.out.sz; omega))
              have HK9 : Hid (Kp (N + 2) v w2 u9) := HK.out.bel B9
              have HT9 : Hid (tried l false n ord s (k + 1)) := tried_next HT.out HM.out HNX.out
              obtain ⟨e0, e1, e2⟩ := PV.cells
              (try clear kk1)
              clear PV kk3 hH10 BD Ba Bp B9
              go_wp2
              go_roundg (gq - 1)
              case rel => exact ⟨k + 1, v1, by omega, by go_num, H9.out, HB9.out, HK9.out, HV.out, HT9.out⟩
              case measure => omega
          | some us =>
            obtain ⟨p', q', r', rfl⟩ := lgS_three hls
            have HLG : Hid (lgS [p, q, r] x = some [p', q', r']) := hls
            have HL : Hid (lgTo l (ord ++ [(m : Int)]) (ord ++ [(m : Int)]).length = some [p', q', r']) := by show _ = _; rw [lgTo_snoc hlg, HX.out]; exact hls
            have HG : Hid (gone l (ord ++ [(m : Int)]) (wo s (2 ^ m)) n) := gone_step hgo HM.out
            clear hls
            by_cases hRR : (findL l false n (ord ++ [(m : Int)])).length = l.length
            · have hR : Hid ((findL l false n (ord ++ [(m : Int)])).length = l.length) := hRR
              clear hRR
              go_wp2_with fail
              have BD : Below wr.heap.size wr wr.drew := (Below.refl _ _).drew
              have kk : wr.drew.cell? ⟨w.heap.size + 1, 0, none⟩ = some (.int .i64 p) ∧ wr.drew.cell? ⟨w.heap.size + 1, 1, none⟩ = some (.int .i64 q) ∧ wr.drew.cell? ⟨w.heap.size + 1, 2, none⟩ = some (.int .i64 r) ∧ wr.drew.cell? ⟨N, 0, none⟩ = some (.slice (some ⟨mb, mo, none⟩) l.length c) ∧ wr.drew.cell? ⟨mb, mo + m * 6, none⟩ = some (.int .i64 x.client) ∧ wr.drew.cell? ⟨mb, mo + m * 6 + 1, none⟩ = some (.int .i64 x.object) ∧ wr.drew.cell? ⟨mb, mo + m * 6 + 2, none⟩ = some (.bool x.write) ∧ wr.drew.cell? ⟨mb, mo + m * 6 + 3, none⟩ = some (.int .i64 x.value) ∧ wr.drew.cell? ⟨mb, mo + m * 6 + 4, none⟩ = some (.int .i64 x.beg) ∧ wr.drew.cell? ⟨mb, mo + m * 6 + 5, none⟩ = some (.int .i64 x.fin) := (by obtain ⟨t0, t1, t2, t3, t4, t5, t6, t7, t8, t9⟩ := kkw; exact ⟨celB BD t0, celB BD t1, celB BD t2, celB BD t3, celB BD t4, celB BD t5, celB BD t6, celB BD t7, celB BD t8, celB BD t9⟩)
              refine wp_region_noPanic ?_
              refine wp_region_held_drew (S := fun w' => w'.cell? ⟨w.heap.size + 1, 0, none⟩ = some (.int .i64 p) ∧ w'.cell? ⟨w.heap.size + 1, 1, none⟩ = some (.int .i64 q) ∧ w'.cell? ⟨w.heap.size + 1, 2, none⟩ = some (.int .i64 r) ∧ w'.cell? ⟨N, 0, none⟩ = some (.slice (some ⟨mb, mo, none⟩) l.length c) ∧ w'.cell? ⟨mb, mo + m * 6, none⟩ = some (.int .i64 x.client) ∧ w'.cell? ⟨mb, mo + m * 6 + 1, none⟩ = some (.int .i64 x.object) ∧ w'.cell? ⟨mb, mo + m * 6 + 2, none⟩ = some (.bool x.write) ∧ w'.cell? ⟨mb, mo + m * 6 + 3, none⟩ = some (.int .i64 x.value) ∧ w'.cell? ⟨mb, mo + m * 6 + 4, none⟩ = some (.int .i64 x.beg) ∧ w'.cell? ⟨mb, mo + m * 6 + 5, none⟩ = some (.int .i64 x.fin)) (by kernel_rfl) kk (fun hH => ?_)
              refine wpAnyH_take (i := 0) (oi := ⟨_, _, _, _, _, _⟩) (v := ?vg0) rfl (by kernel_rfl) (by kernel_rfl) (by kernel_rfl) (fun _ _ _ h => h) (Or.inl ⟨by rfl, ?yg0⟩) (by assumption) ?rg0
              case yg0 => intro w hSw; (try dsimp only at hSw); go_simp; try with_reducible rfl
              try simp only [Act.put, List.setIfInBounds_toArray, List.set_cons_zero, List.set_cons_succ]
              refine wpAnyH_take (i := 1) (oi := ⟨_, _, _, _, _, _⟩) (v := ?vg1) rfl (by kernel_rfl) (by kernel_rfl) (by kernel_rfl) (fun _ _ _ h => h) (Or.inl ⟨by rfl, ?yg1⟩) (by assumption) ?rg1
              case yg1 => intro w hSw; (try dsimp only at hSw); go_simp; try with_reducible rfl
              try simp only [Act.put, List.setIfInBounds_toArray, List.set_cons_zero, List.set_cons_succ]
              refine wpAnyH_take (i := 2) (oi := ⟨_, _, _, _, _, _⟩) (v := ?vg2) rfl (by kernel_rfl) (by kernel_rfl) (by kernel_rfl) (fun _ _ _ h => h) (Or.inl ⟨by rfl, ?yg2⟩) (by assumption) ?rg2
              case yg2 => intro w hSw; (try dsimp only at hSw); go_simp; try with_reducible rfl
              try simp only [Act.put, List.setIfInBounds_toArray, List.set_cons_zero, List.set_cons_succ]
              refine wpAnyH_take (i := 3) (oi := ⟨_, _, _, _, _, _⟩) (v := ?vg3) rfl (by kernel_rfl) (by kernel_rfl) (by kernel_rfl) (fun _ _ _ h => h) (Or.inl ⟨by rfl, ?yg3⟩) (by assumption) ?rg3
              case yg3 => intro w hSw; (try dsimp only at hSw); go_simp; try with_reducible rfl
              try simp only [Act.put, List.setIfInBounds_toArray, List.set_cons_zero, List.set_cons_succ]
              refine wpAnyH_take (i := 4) (oi := ⟨_, _, _, _, _, _⟩) (v := ?vg4) rfl (by kernel_rfl) (by kernel_rfl) (by kernel_rfl) (fun _ _ _ h => h) (Or.inl ⟨by rfl, ?yg4⟩) (by assumption) ?rg4
              case yg4 => intro w hSw; (try dsimp only at hSw); go_simp; try with_reducible rfl
              try simp only [Act.put, List.setIfInBounds_toArray, List.set_cons_zero, List.set_cons_succ]
              refine wpAnyH_ready (rs := [5, 9]) (by kernel_rfl) (by simp) ?_
              refine AllReadyH.cons (o := ⟨_, _, _, _, _, _⟩) rfl (fun KK hK => ?g1) (AllReadyH.cons (o := ⟨_, _, _, _, _, _⟩) rfl (fun KK hK => ?g2) AllReadyH.nil)
              case g1 =>
                go_simp
                refine (behind_t p q r p' q' r' x _ HO2.out HLG.out).mono ?_
                rintro r9 wa ⟨rfl, hBa⟩
                have Ba := stHi BD hBa
                have kk1 : wa.cell? ⟨w.heap.size + 1, 0, none⟩ = some (.int .i64 p) ∧ wa.cell? ⟨w.heap.size + 1, 1, none⟩ = some (.int .i64 q) ∧ wa.cell? ⟨w.heap.size + 1, 2, none⟩ = some (.int .i64 r) ∧ wa.cell? ⟨N, 0, none⟩ = some (.slice (some ⟨mb, mo, none⟩) l.length c) ∧ wa.cell? ⟨mb, mo + m * 6, none⟩ = some (.int .i64 x.client) ∧ wa.cell? ⟨mb, mo + m * 6 + 1, none⟩ = some (.int .i64 x.object) ∧ wa.cell? ⟨mb, mo + m * 6 + 2, none⟩ = some (.bool x.write) ∧ wa.cell? ⟨mb, mo + m * 6 + 3, none⟩ = some (.int .i64 x.value) ∧ wa.cell? ⟨mb, mo + m * 6 + 4, none⟩ = some (.int .i64 x.beg) ∧ wa.cell? ⟨mb, mo + m * 6 + 5, none⟩ = some (.int .i64 x.fin) := (by obtain ⟨t0, t1, t2, t3, t4, t5, t6, t7, t8, t9⟩ := kk; exact ⟨celB hBa t0, celB hBa t1, celB hBa t2, celB hBa t3, celB hBa t4, celB hBa t5, celB hBa t6, celB hBa t7, celB hBa t8, celB hBa t9⟩)
                go_wp2_with fail
                refine hK.out _ _ kk1 (fun hH5 => ?_)
                clear hK KK hH
                try simp only [Act.put, List.setIfInBounds_toArray, List.set_cons_zero, List.set_cons_succ]
                refine wpAnyH_take (i := 6) (oi := ⟨_, _, _, _, _, _⟩) (v := ?vga6) rfl (by kernel_rfl) (by kernel_rfl) (by kernel_rfl) (fun _ _ _ h => h) (Or.inl ⟨by rfl, ?yga6⟩) (by assumption) ?rga6
                case yga6 => intro w hSw; (try dsimp only at hSw); go_simp; try with_reducible rfl
                try simp only [Act.put, List.setIfInBounds_toArray, List.set_cons_zero, List.set_cons_succ]
                refine wpAnyH_take (i := 7) (oi := ⟨_, _, _, _, _, _⟩) (v := ?vga7) rfl (by kernel_rfl) (by kernel_rfl) (by kernel_rfl) (fun _ _ _ h => h) (Or.inl ⟨by rfl, ?yga7⟩) (by assumption) ?rga7
                case yga7 => intro w hSw; (try dsimp only at hSw); go_simp; try with_reducible rfl
                try simp only [Act.put, List.setIfInBounds_toArray, List.set_cons_zero, List.set_cons_succ]
                refine wpAnyH_take (i := 8) (oi := ⟨_, _, _, _, _, _⟩) (v := ?vga8) rfl (by kernel_rfl) (by kernel_rfl) (by kernel_rfl) (fun _ _ _ h => h) (Or.inl ⟨by rfl, ?yga8⟩) (by assumption) ?rga8
                case yga8 => intro w hSw; (try dsimp only at hSw); go_simp; try with_reducible rfl
                try simp only [Act.put, List.setIfInBounds_toArray, List.set_cons_zero, List.set_cons_succ]
                refine wpAnyH_ready (rs := [9]) (by kernel_rfl) (by simp) ?_
                refine AllReadyH.cons (o := ⟨_, _, _, _, _, _⟩) rfl (fun KK hK => ?_) AllReadyH.nil
                go_simp
                have kk2 : (wa.alloc (.cells #[.int .i64 0, .int .i64 0, .int .i64 0] 49)).cell? ⟨w.heap.size + 1, 0, none⟩ = some (.int .i64 p) ∧ (wa.alloc (.cells #[.int .i64 0, .int .i64 0, .int .i64 0] 49)).cell? ⟨w.heap.size + 1, 1, none⟩ = some (.int .i64 q) ∧ (wa.alloc (.cells #[.int .i64 0, .int .i64 0, .int .i64 0] 49)).cell? ⟨w.heap.size + 1, 2, none⟩ = some (.int .i64 r) ∧ (wa.alloc (.cells #[.int .i64 0, .int .i64 0, .int .i64 0] 49)).cell? ⟨N, 0, none⟩ = some (.slice (some ⟨mb, mo, none⟩) l.length c) ∧ (wa.alloc (.cells #[.int .i64 0, .int .i64 0, .int .i64 0] 49)).cell? ⟨mb, mo + m * 6, none⟩ = some (.int .i64 x.client) ∧ (wa.alloc (.cells #[.int .i64 0, .int .i64 0, .int .i64 0] 49)).cell? ⟨mb, mo + m * 6 + 1, none⟩ = some (.int .i64 x.object) ∧ (wa.alloc (.cells #[.int .i64 0, .int .i64 0, .int .i64 0] 49)).cell? ⟨mb, mo + m * 6 + 2, none⟩ = some (.bool x.write) ∧ (wa.alloc (.cells #[.int .i64 0, .int .i64 0, .int .i64 0] 49)).cell? ⟨mb, mo + m * 6 + 3, none⟩ = some (.int .i64 x.value) ∧ (wa.alloc (.cells #[.int .i64 0, .int .i64 0, .int .i64 0] 49)).cell? ⟨mb, mo + m * 6 + 4, none⟩ = some (.int .i64 x.beg) ∧ (wa.alloc (.cells #[.int .i64 0, .int .i64 0, .int .i64 0] 49)).cell? ⟨mb, mo + m * 6 + 5, none⟩ = some (.int .i64 x.fin) := (by obtain ⟨t0, t1, t2, t3, t4, t5, t6, t7, t8, t9⟩ := kk1; exact ⟨celB (alHi wa _) t0, celB (alHi wa _) t1, celB (alHi wa _) t2, celB (alHi wa _) t3, celB (alHi wa _) t4, celB (alHi wa _) t5, celB (alHi wa _) t6, celB (alHi wa _) t7, celB (alHi wa _) t8, celB (alHi wa _) t9⟩)
                refine hK.out _ _ kk2 (fun hH9 => ?_)
                clear hK KK hH5
                try simp only [Act.put, List.setIfInBounds_toArray, List.set_cons_zero, List.set_cons_succ]
                refine wpAnyH_ready (rs := [10]) (by kernel_rfl) (by simp) ?_
                refine AllReadyH.cons (o := ⟨_, _, _, _, _, _⟩) rfl (fun KK hK => ?_) AllReadyH.nil
                go_simp
                have Bp : Below wr.heap.size wr (wa.alloc (.cells #[.int .i64 p', .int .i64 q', .int .i64 r'] 49)) := stHi Ba (alHi wa _)
                have kk3 : (wa.alloc (.cells #[.int .i64 p', .int .i64 q', .int .i64 r'] 49)).cell? ⟨w.heap.size + 1, 0, none⟩ = some (.int .i64 p) ∧ (wa.alloc (.cells #[.int .i64 p', .int .i64 q', .int .i64 r'] 49)).cell? ⟨w.heap.size + 1, 1, none⟩ = some (.int .i64 q) ∧ (wa.alloc (.cells #[.int .i64 p', .int .i64 q', .int .i64 r'] 49)).cell? ⟨w.heap.size + 1, 2, none⟩ = some (.int .i64 r) ∧ (wa.alloc (.cells #[.int .i64 p', .int .i64 q', .int .i64 r'] 49)).cell? ⟨N, 0, none⟩ = some (.slice (some ⟨mb, mo, none⟩) l.length c) ∧ (wa.alloc (.cells #[.int .i64 p', .int .i64 q', .int .i64 r'] 49)).cell? ⟨mb, mo + m * 6, none⟩ = some (.int .i64 x.client) ∧ (wa.alloc (.cells #[.int .i64 p', .int .i64 q', .int .i64 r'] 49)).cell? ⟨mb, mo + m * 6 + 1, none⟩ = some (.int .i64 x.object) ∧ (wa.alloc (.cells #[.int .i64 p', .int .i64 q', .int .i64 r'] 49)).cell? ⟨mb, mo + m * 6 + 2, none⟩ = some (.bool x.write) ∧ (wa.alloc (.cells #[.int .i64 p', .int .i64 q', .int .i64 r'] 49)).cell? ⟨mb, mo + m * 6 + 3, none⟩ = some (.int .i64 x.value) ∧ (wa.alloc (.cells #[.int .i64 p', .int .i64 q', .int .i64 r'] 49)).cell? ⟨mb, mo + m * 6 + 4, none⟩ = some (.int .i64 x.beg) ∧ (wa.alloc (.cells #[.int .i64 p', .int .i64 q', .int .i64 r'] 49)).cell? ⟨mb, mo + m * 6 + 5, none⟩ = some (.int .i64 x.fin) := (by obtain ⟨t0, t1, t2, t3, t4, t5, t6, t7, t8, t9⟩ := kkw; exact ⟨celB Bp t0, celB Bp t1, celB Bp t2, celB Bp t3, celB Bp t4, celB Bp t5, celB Bp t6, celB Bp t7, celB Bp t8, celB Bp t9⟩)
                have PV := Vx.new wa p' q' r'
                have hP : wr.heap.size ≤ wa.heap.size := Ba.size
                refine hK.out _ _ kk3 (fun hH10 => ?_)
                clear hK KK hH9
                try simp only [Act.put, List.setIfInBounds_toArray, List.set_cons_zero, List.set_cons_succ]
                refine wpAnyH_take (i := 11) (oi := ⟨_, _, _, _, _, _⟩) (v := ?vga11) rfl (by kernel_rfl) (by kernel_rfl) (by kernel_rfl) (fun _ _ _ h => h) (Or.inl ⟨by rfl, ?yga11⟩) (by assumption) ?rga11
                case yga11 => intro w hSw; (try dsimp only at hSw); go_simp; try with_reducible rfl
                try simp only [Act.put, List.setIfInBounds_toArray, List.set_cons_zero, List.set_cons_succ]
                refine wpAnyH_done (by kernel_rfl) (NoPanic.normal ?_) _
                clear hBa kk2
                generalize (wa.alloc (.cells #[.int .i64 p', .int .i64 q', .int .i64 r'] 49)) = u9 at *
                generalize wa.heap.size = P at *
                have hzk := HK.out.1
                have B9 := stHi hB Bp
                have H3 := H1.out.bel B9
                have K3 := HK.out.bel B9
                have BN3 : Below N w u9 := HB.out.trans (B9.mono (by have := H1.out.sz; omega))
                have hco := H3.co.cell
                have hol : ord.length ≤ 7 := by omega
                have hz9 := B9.size
                have hPv : some P ≠ v1.ownBlock := fun e => by have := (H1.out.lt e.symm).2; omega
                have hPN : P ≠ N + 2 := by have := H1.out.sz; omega
                have hSv : some w.heap.size ≠ v1.ownBlock := fun e => by have := HV.out _ e.symm; rcases this with g | g; exact absurd (hvb.out _ g) (by omega); omega
                have dS3 := (Kp.of_below (BO := N + 2) (v := v) B9).cell (b := w.heap.size) (off := 0) (by omega) (by omega) hS0 dS
                (try clear kk1)
                clear kk3 hH10 BD Ba
                go_wp2_with (at_builtin; refine wpList_append_lies _ rfl _ _ 24 rfl (N + 4) 3 i0 _ 1 8 Tryd.underlying24 hi hz0 hz1 hz2 rfl (by decide) v1 ord.length (zCells ord) rfl (H3.own.alloc _) ⟨u9.heap.size, 0, none⟩ 1 1 (zCells [(m : Int)]) rfl rfl ?c1ya ?c2ya (by omega) ?c3ya ?c4ya ?c5ya (u9.heap.size + 1) ?c6ya ?_)
                case c1ya => exact World.news_of_block (cs := #[.int .i64 (m : Int)]) (t := 3) (fr := (0, 0)) (by first | exact (heap_alloc_new u9 _) | simpa using (heap_alloc_new u9 _))
                case c2ya => simp [zCells, Value.oneCell']
                case c3ya => unfold maxLen; omega
                case c4ya => omega
                case c5ya => have := H3.sz; simp; omega
                case c6ya => simp
                intro g4 cap4 w4 hown4 hgrow4 hat4 hg4
                obtain ⟨hv4, H4, B4, K4, O4⟩ := H3.grow hown4 hgrow4 hat4
                have hc4 := hv4.cell
                have hf4 := hv4.frozen
                clear hown4 hgrow4 hat4 hg4 hv4 hco
                go_wp2_with fail
                generalize (w4.setCell ⟨N + 2, 0, none⟩ (.slice (some ⟨g4, 0, none⟩) (ord.length + 1) cap4)) = w5 at *
                have V5 := K4.vx hPN hPv PV
                have dS5 := K4.cell (by omega) (by omega) hSv dS3
                have dG5 := H4.cg
                have kk5 : w5.cell? ⟨N + 3, 0, none⟩ = some (goV N) ∧ w5.cell? ⟨w.heap.size, 0, none⟩ = some (.int .u64 (s : Int)) ∧ w5.cell? ⟨P, 0, none⟩ = some (.int .i64 p') ∧ w5.cell? ⟨P, 1, none⟩ = some (.int .i64 q') ∧ w5.cell? ⟨P, 2, none⟩ = some (.int .i64 r') := ⟨dG5, dS5, V5.cells.1, V5.cells.2.1, V5.cells.2.2⟩
                have BD : Below w5.heap.size w5 w5.drew := (Below.refl _ _).drew
                have kk : w5.drew.cell? ⟨N + 3, 0, none⟩ = some (goV N) ∧ w5.drew.cell? ⟨w.heap.size, 0, none⟩ = some (.int .u64 (s : Int)) ∧ w5.drew.cell? ⟨P, 0, none⟩ = some (.int .i64 p') ∧ w5.drew.cell? ⟨P, 1, none⟩ = some (.int .i64 q') ∧ w5.drew.cell? ⟨P, 2, none⟩ = some (.int .i64 r') := (by obtain ⟨t0, t1, t2, t3, t4⟩ := kk5; exact ⟨celB BD t0, celB BD t1, celB BD t2, celB BD t3, celB BD t4⟩)
                clear hc4 hf4
                clear dG5 dS5 V5
                refine wp_region_noPanic ?_
                refine wp_region_held_drew (S := fun w' => w'.cell? ⟨N + 3, 0, none⟩ = some (goV N) ∧ w'.cell? ⟨w.heap.size, 0, none⟩ = some (.int .u64 (s : Int)) ∧ w'.cell? ⟨P, 0, none⟩ = some (.int .i64 p') ∧ w'.cell? ⟨P, 1, none⟩ = some (.int .i64 q') ∧ w'.cell? ⟨P, 2, none⟩ = some (.int .i64 r')) (by kernel_rfl) kk (fun hH => ?_)
                refine wpAnyH_take (i := 0) (oi := ⟨_, _, _, _, _, _⟩) (v := ?vzya0) rfl (by kernel_rfl) (by kernel_rfl) (by kernel_rfl) (fun _ _ _ h => h) (Or.inl ⟨by rfl, ?yzya0⟩) (by assumption) ?rzya0
                case yzya0 => intro w hSw; (try dsimp only at hSw); go_simp; try with_reducible rfl
                try simp only [Act.put, List.setIfInBounds_toArray, List.set_cons_zero, List.set_cons_succ]
                refine wpAnyH_take (i := 1) (oi := ⟨_, _, _, _, _, _⟩) (v := ?vzya1) rfl (by kernel_rfl) (by kernel_rfl) (by kernel_rfl) (fun _ _ _ h => h) (Or.inl ⟨by rfl, ?yzya1⟩) (by assumption) ?rzya1
                case yzya1 => intro w hSw; (try dsimp only at hSw); go_simp; try with_reducible rfl
                try simp only [Act.put, List.setIfInBounds_toArray, List.set_cons_zero, List.set_cons_succ]
                refine wpAnyH_take (i := 2) (oi := ⟨_, _, _, _, _, _⟩) (v := ?vzya2) rfl (by kernel_rfl) (by kernel_rfl) (by kernel_rfl) (fun _ _ _ h => h) (Or.inl ⟨by rfl, ?yzya2⟩) (by assumption) ?rzya2
                case yzya2 => intro w hSw; (try dsimp only at hSw); go_simp; try with_reducible rfl
                try simp only [Act.put, List.setIfInBounds_toArray, List.set_cons_zero, List.set_cons_succ]
                refine wpAnyH_take (i := 5) (oi := ⟨_, _, _, _, _, _⟩) (v := ?vzya5) rfl (by kernel_rfl) (by kernel_rfl) (by kernel_rfl) (fun _ _ _ h => h) (Or.inl ⟨by rfl, ?yzya5⟩) (by assumption) ?rzya5
                case yzya5 => intro w hSw; (try dsimp only at hSw); go_simp; try with_reducible rfl
                try simp only [Act.put, List.setIfInBounds_toArray, List.set_cons_zero, List.set_cons_succ]
                refine wpAnyH_ready (rs := [3]) (by kernel_rfl) (by simp) ?_
                refine AllReadyH.cons (o := ⟨_, _, _, _, _, _⟩) rfl (fun KK hK => ?_) AllReadyH.nil
                go_simp
                refine (only_any m hm7 _).mono ?_
                rintro e9 W1 ⟨rfl, hBk⟩
                have kk1 : W1.cell? ⟨N + 3, 0, none⟩ = some (goV N) ∧ W1.cell? ⟨w.heap.size, 0, none⟩ = some (.int .u64 (s : Int)) ∧ W1.cell? ⟨P, 0, none⟩ = some (.int .i64 p') ∧ W1.cell? ⟨P, 1, none⟩ = some (.int .i64 q') ∧ W1.cell? ⟨P, 2, none⟩ = some (.int .i64 r') := (by obtain ⟨t0, t1, t2, t3, t4⟩ := kk; exact ⟨celB hBk t0, celB hBk t1, celB hBk t2, celB hBk t3, celB hBk t4⟩)
                have BE := stHi BD hBk
                clear hBk
                go_wp2_with fail
                refine hK.out _ _ kk1 (fun hH3 => ?_)
                clear hK KK hH
                try simp only [Act.put, List.setIfInBounds_toArray, List.set_cons_zero, List.set_cons_succ]
                refine wpAnyH_ready (rs := [4]) (by kernel_rfl) (by simp) ?_
                refine AllReadyH.cons (o := ⟨_, _, _, _, _, _⟩) rfl (fun KK hK => ?_) AllReadyH.nil
                go_simp
                refine (without_any s (2 ^ m) hs128 (two7 hm7) _).mono ?_
                rintro e9 W2 ⟨rfl, hBk⟩
                have kk2 : W2.cell? ⟨N + 3, 0, none⟩ = some (goV N) ∧ W2.cell? ⟨w.heap.size, 0, none⟩ = some (.int .u64 (s : Int)) ∧ W2.cell? ⟨P, 0, none⟩ = some (.int .i64 p') ∧ W2.cell? ⟨P, 1, none⟩ = some (.int .i64 q') ∧ W2.cell? ⟨P, 2, none⟩ = some (.int .i64 r') := (by obtain ⟨t0, t1, t2, t3, t4⟩ := kk1; exact ⟨celB hBk t0, celB hBk t1, celB hBk t2, celB hBk t3, celB hBk t4⟩)
                have BF := stHi BE hBk
                clear hBk
                go_wp2_with fail
                refine hK.out _ _ kk2 (fun hH4 => ?_)
                clear hK KK hH3
                try simp only [Act.put, List.setIfInBounds_toArray, List.set_cons_zero, List.set_cons_succ]
                refine wpAnyH_ready (rs := [6]) (by kernel_rfl) (by simp) ?_
                refine AllReadyH.cons (o := ⟨_, _, _, _, _, _⟩) rfl (fun KK hK => ?_) AllReadyH.nil
                go_simp
                have H5 := H4.bel BF
                refine (IH.out (wo s (2 ^ m)) (ord ++ [(m : Int)]) p' q' r' _ W2 H5 HG.out HL.out (by simp; omega)).mono ?_
                rintro e9 W3 hA
                obtain ⟨v6, rfl, H6, B6, K6, O6⟩ := hA.yes_of hR.out
                have K5 : Kp (N + 2) v1 u9 W3 := (K4.bel BF).step O4 K6
                have kk3 : W3.cell? ⟨N + 3, 0, none⟩ = some (goV N) ∧ W3.cell? ⟨w.heap.size, 0, none⟩ = some (.int .u64 (s : Int)) ∧ W3.cell? ⟨P, 0, none⟩ = some (.int .i64 p') ∧ W3.cell? ⟨P, 1, none⟩ = some (.int .i64 q') ∧ W3.cell? ⟨P, 2, none⟩ = some (.int .i64 r') := by
                  have V6 := K5.vx hPN hPv PV
                  have dS6 := K5.cell (by omega) (by omega) hSv dS3
                  exact ⟨H6.cg, dS6, V6.cells.1, V6.cells.2.1, V6.cells.2.2⟩
                go_wp2_with fail
                refine hK.out _ _ kk3 (fun hH6 => ?_)
                clear hK KK hH4
                try simp only [Act.put, List.setIfInBounds_toArray, List.set_cons_zero, List.set_cons_succ]
                refine wpAnyH_done (by kernel_rfl) (NoPanic.normal ?_) _
                have K7 : Kp (N + 2) v w2 W3 := K3.step HV.out K5
                have B7 : Below N w W3 := BN3.trans ((B4.trans (BF.mono (by have := H4.sz; omega))).trans B6)
                have hz5 := K4.1
                have hz6 := BF.size
                have hz7 := K5.1
                have hzr := HK.out.1
                have HA : Hid (GoAns false (n + 1) N (.func (.func 25) #[] #[]) (some ⟨mb, mo, none⟩) c l ord v w (.returned (.bool true)) W3) := GoAns.yes (find_hit hgo hlg hle HT.out HM.out HF.out hR.out) hR.out H6 B7 ((Kp.of_below B2).step (OwnK.refl _ _) K7) (OwnK.trans (OwnK.refl v w.heap.size) (HV.out.trans (OwnK.trans (n := u9.heap.size) (m := W2.heap.size) O4 O6 (by omega)) (by omega)) B2.size)
                clear K7 B7 H6 B6 K6 O6 K5 kk kk1 kk2 kk3 kk5
                go_wp2
                try rw [Exit.noGoto_ret]
                go_ret
                exact HA.out
              case g2 =>
                go_simp
                have Bo : Below wr.heap.size wr (wr.drew.alloc (.cells #[.int .i64 0, .int .i64 0, .int .i64 0] 49)) := stHi BD (alHi wr.drew _)
                have kk1 : (wr.drew.alloc (.cells #[.int .i64 0, .int .i64 0, .int .i64 0] 49)).cell? ⟨w.heap.size + 1, 0, none⟩ = some (.int .i64 p) ∧ (wr.drew.alloc (.cells #[.int .i64 0, .int .i64 0, .int .i64 0] 49)).cell? ⟨w.heap.size + 1, 1, none⟩ = some (.int .i64 q) ∧ (wr.drew.alloc (.cells #[.int .i64 0, .int .i64 0, .int .i64 0] 49)).cell? ⟨w.heap.size + 1, 2, none⟩ = some (.int .i64 r) ∧ (wr.drew.alloc (.cells #[.int .i64 0, .int .i64 0, .int .i64 0] 49)).cell? ⟨N, 0, none⟩ = some (.slice (some ⟨mb, mo, none⟩) l.length c) ∧ (wr.drew.alloc (.cells #[.int .i64 0, .int .i64 0, .int .i64 0] 49)).cell? ⟨mb, mo + m * 6, none⟩ = some (.int .i64 x.client) ∧ (wr.drew.alloc (.cells #[.int .i64 0, .int .i64 0, .int .i64 0] 49)).cell? ⟨mb, mo + m * 6 + 1, none⟩ = some (.int .i64 x.object) ∧ (wr.drew.alloc (.cells #[.int .i64 0, .int .i64 0, .int .i64 0] 49)).cell? ⟨mb, mo + m * 6 + 2, none⟩ = some (.bool x.write) ∧ (wr.drew.alloc (.cells #[.int .i64 0, .int .i64 0, .int .i64 0] 49)).cell? ⟨mb, mo + m * 6 + 3, none⟩ = some (.int .i64 x.value) ∧ (wr.drew.alloc (.cells #[.int .i64 0, .int .i64 0, .int .i64 0] 49)).cell? ⟨mb, mo + m * 6 + 4, none⟩ = some (.int .i64 x.beg) ∧ (wr.drew.alloc (.cells #[.int .i64 0, .int .i64 0, .int .i64 0] 49)).cell? ⟨mb, mo + m * 6 + 5, none⟩ = some (.int .i64 x.fin) := (by obtain ⟨t0, t1, t2, t3, t4, t5, t6, t7, t8, t9⟩ := kk; exact ⟨celB (alHi wr.drew _) t0, celB (alHi wr.drew _) t1, celB (alHi wr.drew _) t2, celB (alHi wr.drew _) t3, celB (alHi wr.drew _) t4, celB (alHi wr.drew _) t5, celB (alHi wr.drew _) t6, celB (alHi wr.drew _) t7, celB (alHi wr.drew _) t8, celB (alHi wr.drew _) t9⟩)
                refine hK.out _ _ kk1 (fun hH5 => ?_)
                clear hK KK hH
                try simp only [Act.put, List.setIfInBounds_toArray, List.set_cons_zero, List.set_cons_succ]
                refine wpAnyH_ready (rs := [5]) (by kernel_rfl) (by simp) ?_
                refine AllReadyH.cons (o := ⟨_, _, _, _, _, _⟩) rfl (fun KK hK => ?_) AllReadyH.nil
                go_simp
                refine (behind_t p q r p' q' r' x _ HO2.out HLG.out).mono ?_
                rintro r9 wa ⟨rfl, hBa⟩
                have Ba := stHi Bo hBa
                have kk2 : wa.cell? ⟨w.heap.size + 1, 0, none⟩ = some (.int .i64 p) ∧ wa.cell? ⟨w.heap.size + 1, 1, none⟩ = some (.int .i64 q) ∧ wa.cell? ⟨w.heap.size + 1, 2, none⟩ = some (.int .i64 r) ∧ wa.cell? ⟨N, 0, none⟩ = some (.slice (some ⟨mb, mo, none⟩) l.length c) ∧ wa.cell? ⟨mb, mo + m * 6, none⟩ = some (.int .i64 x.client) ∧ wa.cell? ⟨mb, mo + m * 6 + 1, none⟩ = some (.int .i64 x.object) ∧ wa.cell? ⟨mb, mo + m * 6 + 2, none⟩ = some (.bool x.write) ∧ wa.cell? ⟨mb, mo + m * 6 + 3, none⟩ = some (.int .i64 x.value) ∧ wa.cell? ⟨mb, mo + m * 6 + 4, none⟩ = some (.int .i64 x.beg) ∧ wa.cell? ⟨mb, mo + m * 6 + 5, none⟩ = some (.int .i64 x.fin) := (by obtain ⟨t0, t1, t2, t3, t4, t5, t6, t7, t8, t9⟩ := kk1; exact ⟨celB hBa t0, celB hBa t1, celB hBa t2, celB hBa t3, celB hBa t4, celB hBa t5, celB hBa t6, celB hBa t7, celB hBa t8, celB hBa t9⟩)
                have PV0 : Vx wa wr.heap.size 0 0 0 := by simpa using (Vx.new wr.drew 0 0 0).below hBa
                go_wp2_with fail
                refine hK.out _ _ kk2 (fun hH9 => ?_)
                clear hK KK hH5
                try simp only [Act.put, List.setIfInBounds_toArray, List.set_cons_zero, List.set_cons_succ]
                refine wpAnyH_take (i := 6) (oi := ⟨_, _, _, _, _, _⟩) (v := ?vgb6) rfl (by kernel_rfl) (by kernel_rfl) (by kernel_rfl) (fun _ _ _ h => h) (Or.inl ⟨by rfl, ?ygb6⟩) (by assumption) ?rgb6
                case ygb6 => intro w hSw; (try dsimp only at hSw); go_simp; try with_reducible rfl
                try simp only [Act.put, List.setIfInBounds_toArray, List.set_cons_zero, List.set_cons_succ]
                refine wpAnyH_take (i := 7) (oi := ⟨_, _, _, _, _, _⟩) (v := ?vgb7) rfl (by kernel_rfl) (by kernel_rfl) (by kernel_rfl) (fun _ _ _ h => h) (Or.inl ⟨by rfl, ?ygb7⟩) (by assumption) ?rgb7
                case ygb7 => intro w hSw; (try dsimp only at hSw); go_simp; try with_reducible rfl
                try simp only [Act.put, List.setIfInBounds_toArray, List.set_cons_zero, List.set_cons_succ]
                refine wpAnyH_take (i := 8) (oi := ⟨_, _, _, _, _, _⟩) (v := ?vgb8) rfl (by kernel_rfl) (by kernel_rfl) (by kernel_rfl) (fun _ _ _ h => h) (Or.inl ⟨by rfl, ?ygb8⟩) (by assumption) ?rgb8
                case ygb8 => intro w hSw; (try dsimp only at hSw); go_simp; try with_reducible rfl
                try simp only [Act.put, List.setIfInBounds_toArray, List.set_cons_zero, List.set_cons_succ]
                refine wpAnyH_ready (rs := [10]) (by kernel_rfl) (by simp) ?_
                refine AllReadyH.cons (o := ⟨_, _, _, _, _, _⟩) rfl (fun KK hK => ?_) AllReadyH.nil
                have PVf : ∀ i, wa.frozen? ⟨wr.heap.size, i, none⟩ = false := fun i => World.rowIs.frozen PV0 i
                obtain ⟨PV1, PV2, PV3⟩ := PV0.cells
                go_simp
                have Bp : Below wr.heap.size wr ((((wa).setCell ⟨wr.heap.size, 0, none⟩ (.int .i64 p')).setCell ⟨wr.heap.size, 1, none⟩ (.int .i64 q')).setCell ⟨wr.heap.size, 2, none⟩ (.int .i64 r')) := ((Ba.setCell (Nat.le_refl _) _).setCell (Nat.le_refl _) _).setCell (Nat.le_refl _) _
                have kk3 : ((((wa).setCell ⟨wr.heap.size, 0, none⟩ (.int .i64 p')).setCell ⟨wr.heap.size, 1, none⟩ (.int .i64 q')).setCell ⟨wr.heap.size, 2, none⟩ (.int .i64 r')).cell? ⟨w.heap.size + 1, 0, none⟩ = some (.int .i64 p) ∧ ((((wa).setCell ⟨wr.heap.size, 0, none⟩ (.int .i64 p')).setCell ⟨wr.heap.size, 1, none⟩ (.int .i64 q')).setCell ⟨wr.heap.size, 2, none⟩ (.int .i64 r')).cell? ⟨w.heap.size + 1, 1, none⟩ = some (.int .i64 q) ∧ ((((wa).setCell ⟨wr.heap.size, 0, none⟩ (.int .i64 p')).setCell ⟨wr.heap.size, 1, none⟩ (.int .i64 q')).setCell ⟨wr.heap.size, 2, none⟩ (.int .i64 r')).cell? ⟨w.heap.size + 1, 2, none⟩ = some (.int .i64 r) ∧ ((((wa).setCell ⟨wr.heap.size, 0, none⟩ (.int .i64 p')).setCell ⟨wr.heap.size, 1, none⟩ (.int .i64 q')).setCell ⟨wr.heap.size, 2, none⟩ (.int .i64 r')).cell? ⟨N, 0, none⟩ = some (.slice (some ⟨mb, mo, none⟩) l.length c) ∧ ((((wa).setCell ⟨wr.heap.size, 0, none⟩ (.int .i64 p')).setCell ⟨wr.heap.size, 1, none⟩ (.int .i64 q')).setCell ⟨wr.heap.size, 2, none⟩ (.int .i64 r')).cell? ⟨mb, mo + m * 6, none⟩ = some (.int .i64 x.client) ∧ ((((wa).setCell ⟨wr.heap.size, 0, none⟩ (.int .i64 p')).setCell ⟨wr.heap.size, 1, none⟩ (.int .i64 q')).setCell ⟨wr.heap.size, 2, none⟩ (.int .i64 r')).cell? ⟨mb, mo + m * 6 + 1, none⟩ = some (.int .i64 x.object) ∧ ((((wa).setCell ⟨wr.heap.size, 0, none⟩ (.int .i64 p')).setCell ⟨wr.heap.size, 1, none⟩ (.int .i64 q')).setCell ⟨wr.heap.size, 2, none⟩ (.int .i64 r')).cell? ⟨mb, mo + m * 6 + 2, none⟩ = some (.bool x.write) ∧ ((((wa).setCell ⟨wr.heap.size, 0, none⟩ (.int .i64 p')).setCell ⟨wr.heap.size, 1, none⟩ (.int .i64 q')).setCell ⟨wr.heap.size, 2, none⟩ (.int .i64 r')).cell? ⟨mb, mo + m * 6 + 3, none⟩ = some (.int .i64 x.value) ∧ ((((wa).setCell ⟨wr.heap.size, 0, none⟩ (.int .i64 p')).setCell ⟨wr.heap.size, 1, none⟩ (.int .i64 q')).setCell ⟨wr.heap.size, 2, none⟩ (.int .i64 r')).cell? ⟨mb, mo + m * 6 + 4, none⟩ = some (.int .i64 x.beg) ∧ ((((wa).setCell ⟨wr.heap.size, 0, none⟩ (.int .i64 p')).setCell ⟨wr.heap.size, 1, none⟩ (.int .i64 q')).setCell ⟨wr.heap.size, 2, none⟩ (.int .i64 r')).cell? ⟨mb, mo + m * 6 + 5, none⟩ = some (.int .i64 x.fin) := (by obtain ⟨t0, t1, t2, t3, t4, t5, t6, t7, t8, t9⟩ := kkw; exact ⟨celB Bp t0, celB Bp t1, celB Bp t2, celB Bp t3, celB Bp t4, celB Bp t5, celB Bp t6, celB Bp t7, celB Bp t8, celB Bp t9⟩)
                have PV := PV0.put p' q' r'
                refine hK.out _ _ kk3 (fun hH10 => ?_)
                clear hK KK hH9
                try simp only [Act.put, List.setIfInBounds_toArray, List.set_cons_zero, List.set_cons_succ]
                refine wpAnyH_take (i := 11) (oi := ⟨_, _, _, _, _, _⟩) (v := ?vgb11) rfl (by kernel_rfl) (by kernel_rfl) (by kernel_rfl) (fun _ _ _ h => h) (Or.inl ⟨by rfl, ?ygb11⟩) (by assumption) ?rgb11
                case ygb11 => intro w hSw; (try dsimp only at hSw); go_simp; try with_reducible rfl
                try simp only [Act.put, List.setIfInBounds_toArray, List.set_cons_zero, List.set_cons_succ]
                refine wpAnyH_done (by kernel_rfl) (NoPanic.normal ?_) _
                clear hBa kk2 kk1 Bo PV0 PVf PV1 PV2 PV3
                generalize (((wa).setCell ⟨wr.heap.size, 0, none⟩ (.int .i64 p')).setCell ⟨wr.heap.size, 1, none⟩ (.int .i64 q')).setCell ⟨wr.heap.size, 2, none⟩ (.int .i64 r') = u9 at *
                obtain ⟨P, hPe⟩ : ∃ P, wr.heap.size = P := ⟨_, rfl⟩
                have PV9 : Vx u9 P p' q' r' := by rw [← hPe]; exact PV
                have hP : wr.heap.size ≤ P := Nat.le_of_eq hPe
                replace PV := PV9
                clear PV9
                rw [hPe]
                clear hPe
                have hzk := HK.out.1
                have B9 := stHi hB Bp
                have H3 := H1.out.bel B9
                have K3 := HK.out.bel B9
                have BN3 : Below N w u9 := HB.out.trans (B9.mono (by have := H1.out.sz; omega))
                have hco := H3.co.cell
                have hol : ord.length ≤ 7 := by omega
                have hz9 := B9.size
                have hPv : some P ≠ v1.ownBlock := fun e => by have := (H1.out.lt e.symm).2; omega
                have hPN : P ≠ N + 2 := by have := H1.out.sz; omega
                have hSv : some w.heap.size ≠ v1.ownBlock := fun e => by have := HV.out _ e.symm; rcases this with g | g; exact absurd (hvb.out _ g) (by omega); omega
                have dS3 := (Kp.of_below (BO := N + 2) (v := v) B9).cell (b := w.heap.size) (off := 0) (by omega) (by omega) hS0 dS
                (try clear kk1)
                clear kk3 hH10 BD Ba
                go_wp2_with (at_builtin; refine wpList_append_lies _ rfl _ _ 24 rfl (N + 4) 3 i0 _ 1 8 Tryd.underlying24 hi hz0 hz1 hz2 rfl (by decide) v1 ord.length (zCells ord) rfl (H3.own.alloc _) ⟨u9.heap.size, 0, none⟩ 1 1 (zCells [(m : Int)]) rfl rfl ?c1yb ?c2yb (by omega) ?c3yb ?c4yb ?c5yb (u9.heap.size + 1) ?c6yb ?_)
                case c1yb => exact World.news_of_block (cs := #[.int .i64 (m : Int)]) (t := 3) (fr := (0, 0)) (by first | exact (heap_alloc_new u9 _) | simpa using (heap_alloc_new u9 _))
                case c2yb => simp [zCells, Value.oneCell']
                case c3yb => unfold maxLen; omega
                case c4yb => omega
                case c5yb => have := H3.sz; simp; omega
                case c6yb => simp
                intro g4 cap4 w4 hown4 hgrow4 hat4 hg4
                obtain ⟨hv4, H4, B4, K4, O4⟩ := H3.grow hown4 hgrow4 hat4
                have hc4 := hv4.cell
                have hf4 := hv4.frozen
                clear hown4 hgrow4 hat4 hg4 hv4 hco
                go_wp2_with fail
                generalize (w4.setCell ⟨N + 2, 0, none⟩ (.slice (some ⟨g4, 0, none⟩) (ord.length + 1) cap4)) = w5 at *
                have V5 := K4.vx hPN hPv PV
                have dS5 := K4.cell (by omega) (by omega) hSv dS3
                have dG5 := H4.cg
                have kk5 : w5.cell? ⟨N + 3, 0, none⟩ = some (goV N) ∧ w5.cell? ⟨w.heap.size, 0, none⟩ = some (.int .u64 (s : Int)) ∧ w5.cell? ⟨P, 0, none⟩ = some (.int .i64 p') ∧ w5.cell? ⟨P, 1, none⟩ = some (.int .i64 q') ∧ w5.cell? ⟨P, 2, none⟩ = some (.int .i64 r') := ⟨dG5, dS5, V5.cells.1, V5.cells.2.1, V5.cells.2.2⟩
                have BD : Below w5.heap.size w5 w5.drew := (Below.refl _ _).drew
                have kk : w5.drew.cell? ⟨N + 3, 0, none⟩ = some (goV N) ∧ w5.drew.cell? ⟨w.heap.size, 0, none⟩ = some (.int .u64 (s : Int)) ∧ w5.drew.cell? ⟨P, 0, none⟩ = some (.int .i64 p') ∧ w5.drew.cell? ⟨P, 1, none⟩ = some (.int .i64 q') ∧ w5.drew.cell? ⟨P, 2, none⟩ = some (.int .i64 r') := (by obtain ⟨t0, t1, t2, t3, t4⟩ := kk5; exact ⟨celB BD t0, celB BD t1, celB BD t2, celB BD t3, celB BD t4⟩)
                clear hc4 hf4
                clear dG5 dS5 V5
                refine wp_region_noPanic ?_
                refine wp_region_held_drew (S := fun w' => w'.cell? ⟨N + 3, 0, none⟩ = some (goV N) ∧ w'.cell? ⟨w.heap.size, 0, none⟩ = some (.int .u64 (s : Int)) ∧ w'.cell? ⟨P, 0, none⟩ = some (.int .i64 p') ∧ w'.cell? ⟨P, 1, none⟩ = some (.int .i64 q') ∧ w'.cell? ⟨P, 2, none⟩ = some (.int .i64 r')) (by kernel_rfl) kk (fun hH => ?_)
                refine wpAnyH_take (i := 0) (oi := ⟨_, _, _, _, _, _⟩) (v := ?vzyb0) rfl (by kernel_rfl) (by kernel_rfl) (by kernel_rfl) (fun _ _ _ h => h) (Or.inl ⟨by rfl, ?yzyb0⟩) (by assumption) ?rzyb0
                case yzyb0 => intro w hSw; (try dsimp only at hSw); go_simp; try with_reducible rfl
                try simp only [Act.put, List.setIfInBounds_toArray, List.set_cons_zero, List.set_cons_succ]
                refine wpAnyH_take (i := 1) (oi := ⟨_, _, _, _, _, _⟩) (v := ?vzyb1) rfl (by kernel_rfl) (by kernel_rfl) (by kernel_rfl) (fun _ _ _ h => h) (Or.inl ⟨by rfl, ?yzyb1⟩) (by assumption) ?rzyb1
                case yzyb1 => intro w hSw; (try dsimp only at hSw); go_simp; try with_reducible rfl
                try simp only [Act.put, List.setIfInBounds_toArray, List.set_cons_zero, List.set_cons_succ]
                refine wpAnyH_take (i := 2) (oi := ⟨_, _, _, _, _, _⟩) (v := ?vzyb2) rfl (by kernel_rfl) (by kernel_rfl) (by kernel_rfl) (fun _ _ _ h => h) (Or.inl ⟨by rfl, ?yzyb2⟩) (by assumption) ?rzyb2
                case yzyb2 => intro w hSw; (try dsimp only at hSw); go_simp; try with_reducible rfl
                try simp only [Act.put, List.setIfInBounds_toArray, List.set_cons_zero, List.set_cons_succ]
                refine wpAnyH_take (i := 5) (oi := ⟨_, _, _, _, _, _⟩) (v := ?vzyb5) rfl (by kernel_rfl) (by kernel_rfl) (by kernel_rfl) (fun _ _ _ h => h) (Or.inl ⟨by rfl, ?yzyb5⟩) (by assumption) ?rzyb5
                case yzyb5 => intro w hSw; (try dsimp only at hSw); go_simp; try with_reducible rfl
                try simp only [Act.put, List.setIfInBounds_toArray, List.set_cons_zero, List.set_cons_succ]
                refine wpAnyH_ready (rs := [3]) (by kernel_rfl) (by simp) ?_
                refine AllReadyH.cons (o := ⟨_, _, _, _, _, _⟩) rfl (fun KK hK => ?_) AllReadyH.nil
                go_simp
                refine (only_any m hm7 _).mono ?_
                rintro e9 W1 ⟨rfl, hBk⟩
                have kk1 : W1.cell? ⟨N + 3, 0, none⟩ = some (goV N) ∧ W1.cell? ⟨w.heap.size, 0, none⟩ = some (.int .u64 (s : Int)) ∧ W1.cell? ⟨P, 0, none⟩ = some (.int .i64 p') ∧ W1.cell? ⟨P, 1, none⟩ = some (.int .i64 q') ∧ W1.cell? ⟨P, 2, none⟩ = some (.int .i64 r') := (by obtain ⟨t0, t1, t2, t3, t4⟩ := kk; exact ⟨celB hBk t0, celB hBk t1, celB hBk t2, celB hBk t3, celB hBk t4⟩)
                have BE := stHi BD hBk
                clear hBk
                go_wp2_with fail
                refine hK.out _ _ kk1 (fun hH3 => ?_)
                clear hK KK hH
                try simp only [Act.put, List.setIfInBounds_toArray, List.set_cons_zero, List.set_cons_succ]
                refine wpAnyH_ready (rs := [4]) (by kernel_rfl) (by simp) ?_
                refine AllReadyH.cons (o := ⟨_, _, _, _, _, _⟩) rfl (fun KK hK => ?_) AllReadyH.nil
                go_simp
                refine (without_any s (2 ^ m) hs128 (two7 hm7) _).mono ?_
                rintro e9 W2 ⟨rfl, hBk⟩
                have kk2 : W2.cell? ⟨N + 3, 0, none⟩ = some (goV N) ∧ W2.cell? ⟨w.heap.size, 0, none⟩ = some (.int .u64 (s : Int)) ∧ W2.cell? ⟨P, 0, none⟩ = some (.int .i64 p') ∧ W2.cell? ⟨P, 1, none⟩ = some (.int .i64 q') ∧ W2.cell? ⟨P, 2, none⟩ = some (.int .i64 r') := (by obtain ⟨t0, t1, t2, t3, t4⟩ := kk1; exact ⟨celB hBk t0, celB hBk t1, celB hBk t2, celB hBk t3, celB hBk t4⟩)
                have BF := stHi BE hBk
                clear hBk
                go_wp2_with fail
                refine hK.out _ _ kk2 (fun hH4 => ?_)
                clear hK KK hH3
                try simp only [Act.put, List.setIfInBounds_toArray, List.set_cons_zero, List.set_cons_succ]
                refine wpAnyH_ready (rs := [6]) (by kernel_rfl) (by simp) ?_
                refine AllReadyH.cons (o := ⟨_, _, _, _, _, _⟩) rfl (fun KK hK => ?_) AllReadyH.nil
                go_simp
                have H5 := H4.bel BF
                refine (IH.out (wo s (2 ^ m)) (ord ++ [(m : Int)]) p' q' r' _ W2 H5 HG.out HL.out (by simp; omega)).mono ?_
                rintro e9 W3 hA
                obtain ⟨v6, rfl, H6, B6, K6, O6⟩ := hA.yes_of hR.out
                have K5 : Kp (N + 2) v1 u9 W3 := (K4.bel BF).step O4 K6
                have kk3 : W3.cell? ⟨N + 3, 0, none⟩ = some (goV N) ∧ W3.cell? ⟨w.heap.size, 0, none⟩ = some (.int .u64 (s : Int)) ∧ W3.cell? ⟨P, 0, none⟩ = some (.int .i64 p') ∧ W3.cell? ⟨P, 1, none⟩ = some (.int .i64 q') ∧ W3.cell? ⟨P, 2, none⟩ = some (.int .i64 r') := by
                  have V6 := K5.vx hPN hPv PV
                  have dS6 := K5.cell (by omega) (by omega) hSv dS3
                  exact ⟨H6.cg, dS6, V6.cells.1, V6.cells.2.1, V6.cells.2.2⟩
                go_wp2_with fail
                refine hK.out _ _ kk3 (fun hH6 => ?_)
                clear hK KK hH4
                try simp only [Act.put, List.setIfInBounds_toArray, List.set_cons_zero, List.set_cons_succ]
                refine wpAnyH_done (by kernel_rfl) (NoPanic.normal ?_) _
                have K7 : Kp (N + 2) v w2 W3 := K3.step HV.out K5
                have B7 : Below N w W3 := BN3.trans ((B4.trans (BF.mono (by have := H4.sz; omega))).trans B6)
                have hz5 := K4.1
                have hz6 := BF.size
                have hz7 := K5.1
                have hzr := HK.out.1
                have HA : Hid (GoAns false (n + 1) N (.func (.func 25) #[] #[]) (some ⟨mb, mo, none⟩) c l ord v w (.returned (.bool true)) W3) := GoAns.yes (find_hit hgo hlg hle HT.out HM.out HF.out hR.out) hR.out H6 B7 ((Kp.of_below B2).step (OwnK.refl _ _) K7) (OwnK.trans (OwnK.refl v w.heap.size) (HV.out.trans (OwnK.trans (n := u9.heap.size) (m := W2.heap.size) O4 O6 (by omega)) (by omega)) B2.size)
                clear K7 B7 H6 B6 K6 O6 K5 kk kk1 kk2 kk3 kk5
                go_wp2
                try rw [Exit.noGoto_ret]
                go_ret
                exact HA.out
            · have hR : Hid (¬ (findL l false n (ord ++ [(m : Int)])).length = l.length) := hRR
              clear hRR
              go_wp2_with fail
              have BD : Below wr.heap.size wr wr.drew := (Below.refl _ _).drew
              have kk : wr.drew.cell? ⟨w.heap.size + 1, 0, none⟩ = some (.int .i64 p) ∧ wr.drew.cell? ⟨w.heap.size + 1, 1, none⟩ = some (.int .i64 q) ∧ wr.drew.cell? ⟨w.heap.size + 1, 2, none⟩ = some (.int .i64 r) ∧ wr.drew.cell? ⟨N, 0, none⟩ = some (.slice (some ⟨mb, mo, none⟩) l.length c) ∧ wr.drew.cell? ⟨mb, mo + m * 6, none⟩ = some (.int .i64 x.client) ∧ wr.drew.cell? ⟨mb, mo + m * 6 + 1, none⟩ = some (.int .i64 x.object) ∧ wr.drew.cell? ⟨mb, mo + m * 6 + 2, none⟩ = some (.bool x.write) ∧ wr.drew.cell? ⟨mb, mo + m * 6 + 3, none⟩ = some (.int .i64 x.value) ∧ wr.drew.cell? ⟨mb, mo + m * 6 + 4, none⟩ = some (.int .i64 x.beg) ∧ wr.drew.cell? ⟨mb, mo + m * 6 + 5, none⟩ = some (.int .i64 x.fin) := (by obtain ⟨t0, t1, t2, t3, t4, t5, t6, t7, t8, t9⟩ := kkw; exact ⟨celB BD t0, celB BD t1, celB BD t2, celB BD t3, celB BD t4, celB BD t5, celB BD t6, celB BD t7, celB BD t8, celB BD t9⟩)
              refine wp_region_noPanic ?_
              refine wp_region_held_drew (S := fun w' => w'.cell? ⟨w.heap.size + 1, 0, none⟩ = some (.int .i64 p) ∧ w'.cell? ⟨w.heap.size + 1, 1, none⟩ = some (.int .i64 q) ∧ w'.cell? ⟨w.heap.size + 1, 2, none⟩ = some (.int .i64 r) ∧ w'.cell? ⟨N, 0, none⟩ = some (.slice (some ⟨mb, mo, none⟩) l.length c) ∧ w'.cell? ⟨mb, mo + m * 6, none⟩ = some (.int .i64 x.client) ∧ w'.cell? ⟨mb, mo + m * 6 + 1, none⟩ = some (.int .i64 x.object) ∧ w'.cell? ⟨mb, mo + m * 6 + 2, none⟩ = some (.bool x.write) ∧ w'.cell? ⟨mb, mo + m * 6 + 3, none⟩ = some (.int .i64 x.value) ∧ w'.cell? ⟨mb, mo + m * 6 + 4, none⟩ = some (.int .i64 x.beg) ∧ w'.cell? ⟨mb, mo + m * 6 + 5, none⟩ = some (.int .i64 x.fin)) (by kernel_rfl) kk (fun hH => ?_)
              refine wpAnyH_take (i := 0) (oi := ⟨_, _, _, _, _, _⟩) (v := ?vh0) rfl (by kernel_rfl) (by kernel_rfl) (by kernel_rfl) (fun _ _ _ h => h) (Or.inl ⟨by rfl, ?yh0⟩) (by assumption) ?rh0
              case yh0 => intro w hSw; (try dsimp only at hSw); go_simp; try with_reducible rfl
              try simp only [Act.put, List.setIfInBounds_toArray, List.set_cons_zero, List.set_cons_succ]
              refine wpAnyH_take (i := 1) (oi := ⟨_, _, _, _, _, _⟩) (v := ?vh1) rfl (by kernel_rfl) (by kernel_rfl) (by kernel_rfl) (fun _ _ _ h => h) (Or.inl ⟨by rfl, ?yh1⟩) (by assumption) ?rh1
              case yh1 => intro w hSw; (try dsimp only at hSw); go_simp; try with_reducible rfl
              try simp only [Act.put, List.setIfInBounds_toArray, List.set_cons_zero, List.set_cons_succ]
              refine wpAnyH_take (i := 2) (oi := ⟨_, _, _, _, _, _⟩) (v := ?vh2) rfl (by kernel_rfl) (by kernel_rfl) (by kernel_rfl) (fun _ _ _ h => h) (Or.inl ⟨by rfl, ?yh2⟩) (by assumption) ?rh2
              case yh2 => intro w hSw; (try dsimp only at hSw); go_simp; try with_reducible rfl
              try simp only [Act.put, List.setIfInBounds_toArray, List.set_cons_zero, List.set_cons_succ]
              refine wpAnyH_take (i := 3) (oi := ⟨_, _, _, _, _, _⟩) (v := ?vh3) rfl (by kernel_rfl) (by kernel_rfl) (by kernel_rfl) (fun _ _ _ h => h) (Or.inl ⟨by rfl, ?yh3⟩) (by assumption) ?rh3
              case yh3 => intro w hSw; (try dsimp only at hSw); go_simp; try with_reducible rfl
              try simp only [Act.put, List.setIfInBounds_toArray, List.set_cons_zero, List.set_cons_succ]
              refine wpAnyH_take (i := 4) (oi := ⟨_, _, _, _, _, _⟩) (v := ?vh4) rfl (by kernel_rfl) (by kernel_rfl) (by kernel_rfl) (fun _ _ _ h => h) (Or.inl ⟨by rfl, ?yh4⟩) (by assumption) ?rh4
              case yh4 => intro w hSw; (try dsimp only at hSw); go_simp; try with_reducible rfl
              try simp only [Act.put, List.setIfInBounds_toArray, List.set_cons_zero, List.set_cons_succ]
              refine wpAnyH_ready (rs := [5, 9]) (by kernel_rfl) (by simp) ?_
              refine AllReadyH.cons (o := ⟨_, _, _, _, _, _⟩) rfl (fun KK hK => ?h1) (AllReadyH.cons (o := ⟨_, _, _, _, _, _⟩) rfl (fun KK hK => ?h2) AllReadyH.nil)
              case h1 =>
                go_simp
                refine (behind_t p q r p' q' r' x _ HO2.out HLG.out).mono ?_
                rintro r9 wa ⟨rfl, hBa⟩
                have Ba := stHi BD hBa
                have kk1 : wa.cell? ⟨w.heap.size + 1, 0, none⟩ = some (.int .i64 p) ∧ wa.cell? ⟨w.heap.size + 1, 1, none⟩ = some (.int .i64 q) ∧ wa.cell? ⟨w.heap.size + 1, 2, none⟩ = some (.int .i64 r) ∧ wa.cell? ⟨N, 0, none⟩ = some (.slice (some ⟨mb, mo, none⟩) l.length c) ∧ wa.cell? ⟨mb, mo + m * 6, none⟩ = some (.int .i64 x.client) ∧ wa.cell? ⟨mb, mo + m * 6 + 1, none⟩ = some (.int .i64 x.object) ∧ wa.cell? ⟨mb, mo + m * 6 + 2, none⟩ = some (.bool x.write) ∧ wa.cell? ⟨mb, mo + m * 6 + 3, none⟩ = some (.int .i64 x.value) ∧ wa.cell? ⟨mb, mo + m * 6 + 4, none⟩ = some (.int .i64 x.beg) ∧ wa.cell? ⟨mb, mo + m * 6 + 5, none⟩ = some (.int .i64 x.fin) := (by obtain ⟨t0, t1, t2, t3, t4, t5, t6, t7, t8, t9⟩ := kk; exact ⟨celB hBa t0, celB hBa t1, celB hBa t2, celB hBa t3, celB hBa t4, celB hBa t5, celB hBa t6, celB hBa t7, celB hBa t8, celB hBa t9⟩)
                go_wp2_with fail
                refine hK.out _ _ kk1 (fun hH5 => ?_)
                clear hK KK hH
                try simp only [Act.put, List.setIfInBounds_toArray, List.set_cons_zero, List.set_cons_succ]
                refine wpAnyH_take (i := 6) (oi := ⟨_, _, _, _, _, _⟩) (v := ?vha6) rfl (by kernel_rfl) (by kernel_rfl) (by kernel_rfl) (fun _ _ _ h => h) (Or.inl ⟨by rfl, ?yha6⟩) (by assumption) ?rha6
                case yha6 => intro w hSw; (try dsimp only at hSw); go_simp; try with_reducible rfl
                try simp only [Act.put, List.setIfInBounds_toArray, List.set_cons_zero, List.set_cons_succ]
                refine wpAnyH_take (i := 7) (oi := ⟨_, _, _, _, _, _⟩) (v := ?vha7) rfl (by kernel_rfl) (by kernel_rfl) (by kernel_rfl) (fun _ _ _ h => h) (Or.inl ⟨by rfl, ?yha7⟩) (by assumption) ?rha7
                case yha7 => intro w hSw; (try dsimp only at hSw); go_simp; try with_reducible rfl
                try simp only [Act.put, List.setIfInBounds_toArray, List.set_cons_zero, List.set_cons_succ]
                refine wpAnyH_take (i := 8) (oi := ⟨_, _, _, _, _, _⟩) (v := ?vha8) rfl (by kernel_rfl) (by kernel_rfl) (by kernel_rfl) (fun _ _ _ h => h) (Or.inl ⟨by rfl, ?yha8⟩) (by assumption) ?rha8
                case yha8 => intro w hSw; (try dsimp only at hSw); go_simp; try with_reducible rfl
                try simp only [Act.put, List.setIfInBounds_toArray, List.set_cons_zero, List.set_cons_succ]
                refine wpAnyH_ready (rs := [9]) (by kernel_rfl) (by simp) ?_
                refine AllReadyH.cons (o := ⟨_, _, _, _, _, _⟩) rfl (fun KK hK => ?_) AllReadyH.nil
                go_simp
                have kk2 : (wa.alloc (.cells #[.int .i64 0, .int .i64 0, .int .i64 0] 49)).cell? ⟨w.heap.size + 1, 0, none⟩ = some (.int .i64 p) ∧ (wa.alloc (.cells #[.int .i64 0, .int .i64 0, .int .i64 0] 49)).cell? ⟨w.heap.size + 1, 1, none⟩ = some (.int .i64 q) ∧ (wa.alloc (.cells #[.int .i64 0, .int .i64 0, .int .i64 0] 49)).cell? ⟨w.heap.size + 1, 2, none⟩ = some (.int .i64 r) ∧ (wa.alloc (.cells #[.int .i64 0, .int .i64 0, .int .i64 0] 49)).cell? ⟨N, 0, none⟩ = some (.slice (some ⟨mb, mo, none⟩) l.length c) ∧ (wa.alloc (.cells #[.int .i64 0, .int .i64 0, .int .i64 0] 49)).cell? ⟨mb, mo + m * 6, none⟩ = some (.int .i64 x.client) ∧ (wa.alloc (.cells #[.int .i64 0, .int .i64 0, .int .i64 0] 49)).cell? ⟨mb, mo + m * 6 + 1, none⟩ = some (.int .i64 x.object) ∧ (wa.alloc (.cells #[.int .i64 0, .int .i64 0, .int .i64 0] 49)).cell? ⟨mb, mo + m * 6 + 2, none⟩ = some (.bool x.write) ∧ (wa.alloc (.cells #[.int .i64 0, .int .i64 0, .int .i64 0] 49)).cell? ⟨mb, mo + m * 6 + 3, none⟩ = some (.int .i64 x.value) ∧ (wa.alloc (.cells #[.int .i64 0, .int .i64 0, .int .i64 0] 49)).cell? ⟨mb, mo + m * 6 + 4, none⟩ = some (.int .i64 x.beg) ∧ (wa.alloc (.cells #[.int .i64 0, .int .i64 0, .int .i64 0] 49)).cell? ⟨mb, mo + m * 6 + 5, none⟩ = some (.int .i64 x.fin) := (by obtain ⟨t0, t1, t2, t3, t4, t5, t6, t7, t8, t9⟩ := kk1; exact ⟨celB (alHi wa _) t0, celB (alHi wa _) t1, celB (alHi wa _) t2, celB (alHi wa _) t3, celB (alHi wa _) t4, celB (alHi wa _) t5, celB (alHi wa _) t6, celB (alHi wa _) t7, celB (alHi wa _) t8, celB (alHi wa _) t9⟩)
                refine hK.out _ _ kk2 (fun hH9 => ?_)
                clear hK KK hH5
                try simp only [Act.put, List.setIfInBounds_toArray, List.set_cons_zero, List.set_cons_succ]
                refine wpAnyH_ready (rs := [10]) (by kernel_rfl) (by simp) ?_
                refine AllReadyH.cons (o := ⟨_, _, _, _, _, _⟩) rfl (fun KK hK => ?_) AllReadyH.nil
                go_simp
                have Bp : Below wr.heap.size wr (wa.alloc (.cells #[.int .i64 p', .int .i64 q', .int .i64 r'] 49)) := stHi Ba (alHi wa _)
                have kk3 : (wa.alloc (.cells #[.int .i64 p', .int .i64 q', .int .i64 r'] 49)).cell? ⟨w.heap.size + 1, 0, none⟩ = some (.int .i64 p) ∧ (wa.alloc (.cells #[.int .i64 p', .int .i64 q', .int .i64 r'] 49)).cell? ⟨w.heap.size + 1, 1, none⟩ = some (.int .i64 q) ∧ (wa.alloc (.cells #[.int .i64 p', .int .i64 q', .int .i64 r'] 49)).cell? ⟨w.heap.size + 1, 2, none⟩ = some (.int .i64 r) ∧ (wa.alloc (.cells #[.int .i64 p', .int .i64 q', .int .i64 r'] 49)).cell? ⟨N, 0, none⟩ = some (.slice (some ⟨mb, mo, none⟩) l.length c) ∧ (wa.alloc (.cells #[.int .i64 p', .int .i64 q', .int .i64 r'] 49)).cell? ⟨mb, mo + m * 6, none⟩ = some (.int .i64 x.client) ∧ (wa.alloc (.cells #[.int .i64 p', .int .i64 q', .int .i64 r'] 49)).cell? ⟨mb, mo + m * 6 + 1, none⟩ = some (.int .i64 x.object) ∧ (wa.alloc (.cells #[.int .i64 p', .int .i64 q', .int .i64 r'] 49)).cell? ⟨mb, mo + m * 6 + 2, none⟩ = some (.bool x.write) ∧ (wa.alloc (.cells #[.int .i64 p', .int .i64 q', .int .i64 r'] 49)).cell? ⟨mb, mo + m * 6 + 3, none⟩ = some (.int .i64 x.value) ∧ (wa.alloc (.cells #[.int .i64 p', .int .i64 q', .int .i64 r'] 49)).cell? ⟨mb, mo + m * 6 + 4, none⟩ = some (.int .i64 x.beg) ∧ (wa.alloc (.cells #[.int .i64 p', .int .i64 q', .int .i64 r'] 49)).cell? ⟨mb, mo + m * 6 + 5, none⟩ = some (.int .i64 x.fin) := (by obtain ⟨t0, t1, t2, t3, t4, t5, t6, t7, t8, t9⟩ := kkw; exact ⟨celB Bp t0, celB Bp t1, celB Bp t2, celB Bp t3, celB Bp t4, celB Bp t5, celB Bp t6, celB Bp t7, celB Bp t8, celB Bp t9⟩)
                have PV := Vx.new wa p' q' r'
                have hP : wr.heap.size ≤ wa.heap.size := Ba.size
                refine hK.out _ _ kk3 (fun hH10 => ?_)
                clear hK KK hH9
                try simp only [Act.put, List.setIfInBounds_toArray, List.set_cons_zero, List.set_cons_succ]
                refine wpAnyH_take (i := 11) (oi := ⟨_, _, _, _, _, _⟩) (v := ?vha11) rfl (by kernel_rfl) (by kernel_rfl) (by kernel_rfl) (fun _ _ _ h => h) (Or.inl ⟨by rfl, ?yha11⟩) (by assumption) ?rha11
                case yha11 => intro w hSw; (try dsimp only at hSw); go_simp; try with_reducible rfl
                try simp only [Act.put, List.setIfInBounds_toArray, List.set_cons_zero, List.set_cons_succ]
                refine wpAnyH_done (by kernel_rfl) (NoPanic.normal ?_) _
                clear hBa kk2
                generalize (wa.alloc (.cells #[.int .i64 p', .int .i64 q', .int .i64 r'] 49)) = u9 at *
                generalize wa.heap.size = P at *
                have hzk := HK.out.1
                have B9 := stHi hB Bp
                have H3 := H1.out.bel B9
                have K3 := HK.out.bel B9
                have BN3 : Below N w u9 := HB.out.trans (B9.mono (by have := H1.out.sz; omega))
                have hco := H3.co.cell
                have hol : ord.length ≤ 7 := by omega
                have hz9 := B9.size
                have hPv : some P ≠ v1.ownBlock := fun e => by have := (H1.out.lt e.symm).2; omega
                have hPN : P ≠ N + 2 := by have := H1.out.sz; omega
                have hSv : some w.heap.size ≠ v1.ownBlock := fun e => by have := HV.out _ e.symm; rcases this with g | g; exact absurd (hvb.out _ g) (by omega); omega
                have dS3 := (Kp.of_below (BO := N + 2) (v := v) B9).cell (b := w.heap.size) (off := 0) (by omega) (by omega) hS0 dS
                (try clear kk1)
                clear kk3 hH10 BD Ba
                go_wp2_with (at_builtin; refine wpList_append_lies _ rfl _ _ 24 rfl (N + 4) 3 i0 _ 1 8 Tryd.underlying24 hi hz0 hz1 hz2 rfl (by decide) v1 ord.length (zCells ord) rfl (H3.own.alloc _) ⟨u9.heap.size, 0, none⟩ 1 1 (zCells [(m : Int)]) rfl rfl ?c1na ?c2na (by omega) ?c3na ?c4na ?c5na (u9.heap.size + 1) ?c6na ?_)
                case c1na => exact World.news_of_block (cs := #[.int .i64 (m : Int)]) (t := 3) (fr := (0, 0)) (by first | exact (heap_alloc_new u9 _) | simpa using (heap_alloc_new u9 _))
                case c2na => simp [zCells, Value.oneCell']
                case c3na => unfold maxLen; omega
                case c4na => omega
                case c5na => have := H3.sz; simp; omega
                case c6na => simp
                intro g4 cap4 w4 hown4 hgrow4 hat4 hg4
                obtain ⟨hv4, H4, B4, K4, O4⟩ := H3.grow hown4 hgrow4 hat4
                have hc4 := hv4.cell
                have hf4 := hv4.frozen
                clear hown4 hgrow4 hat4 hg4 hv4 hco
                go_wp2_with fail
                generalize (w4.setCell ⟨N + 2, 0, none⟩ (.slice (some ⟨g4, 0, none⟩) (ord.length + 1) cap4)) = w5 at *
                have V5 := K4.vx hPN hPv PV
                have dS5 := K4.cell (by omega) (by omega) hSv dS3
                have dG5 := H4.cg
                have kk5 : w5.cell? ⟨N + 3, 0, none⟩ = some (goV N) ∧ w5.cell? ⟨w.heap.size, 0, none⟩ = some (.int .u64 (s : Int)) ∧ w5.cell? ⟨P, 0, none⟩ = some (.int .i64 p') ∧ w5.cell? ⟨P, 1, none⟩ = some (.int .i64 q') ∧ w5.cell? ⟨P, 2, none⟩ = some (.int .i64 r') := ⟨dG5, dS5, V5.cells.1, V5.cells.2.1, V5.cells.2.2⟩
                have BD : Below w5.heap.size w5 w5.drew := (Below.refl _ _).drew
                have kk : w5.drew.cell? ⟨N + 3, 0, none⟩ = some (goV N) ∧ w5.drew.cell? ⟨w.heap.size, 0, none⟩ = some (.int .u64 (s : Int)) ∧ w5.drew.cell? ⟨P, 0, none⟩ = some (.int .i64 p') ∧ w5.drew.cell? ⟨P, 1, none⟩ = some (.int .i64 q') ∧ w5.drew.cell? ⟨P, 2, none⟩ = some (.int .i64 r') := (by obtain ⟨t0, t1, t2, t3, t4⟩ := kk5; exact ⟨celB BD t0, celB BD t1, celB BD t2, celB BD t3, celB BD t4⟩)
                clear hc4 hf4
                clear dG5 dS5 V5
                refine wp_region_noPanic ?_
                refine wp_region_held_drew (S := fun w' => w'.cell? ⟨N + 3, 0, none⟩ = some (goV N) ∧ w'.cell? ⟨w.heap.size, 0, none⟩ = some (.int .u64 (s : Int)) ∧ w'.cell? ⟨P, 0, none⟩ = some (.int .i64 p') ∧ w'.cell? ⟨P, 1, none⟩ = some (.int .i64 q') ∧ w'.cell? ⟨P, 2, none⟩ = some (.int .i64 r')) (by kernel_rfl) kk (fun hH => ?_)
                refine wpAnyH_take (i := 0) (oi := ⟨_, _, _, _, _, _⟩) (v := ?vzna0) rfl (by kernel_rfl) (by kernel_rfl) (by kernel_rfl) (fun _ _ _ h => h) (Or.inl ⟨by rfl, ?yzna0⟩) (by assumption) ?rzna0
                case yzna0 => intro w hSw; (try dsimp only at hSw); go_simp; try with_reducible rfl
                try simp only [Act.put, List.setIfInBounds_toArray, List.set_cons_zero, List.set_cons_succ]
                refine wpAnyH_take (i := 1) (oi := ⟨_, _, _, _, _, _⟩) (v := ?vzna1) rfl (by kernel_rfl) (by kernel_rfl) (by kernel_rfl) (fun _ _ _ h => h) (Or.inl ⟨by rfl, ?yzna1⟩) (by assumption) ?rzna1
                case yzna1 => intro w hSw; (try dsimp only at hSw); go_simp; try with_reducible rfl
                try simp only [Act.put, List.setIfInBounds_toArray, List.set_cons_zero, List.set_cons_succ]
                refine wpAnyH_take (i := 2) (oi := ⟨_, _, _, _, _, _⟩) (v := ?vzna2) rfl (by kernel_rfl) (by kernel_rfl) (by kernel_rfl) (fun _ _ _ h => h) (Or.inl ⟨by rfl, ?yzna2⟩) (by assumption) ?rzna2
                case yzna2 => intro w hSw; (try dsimp only at hSw); go_simp; try with_reducible rfl
                try simp only [Act.put, List.setIfInBounds_toArray, List.set_cons_zero, List.set_cons_succ]
                refine wpAnyH_take (i := 5) (oi := ⟨_, _, _, _, _, _⟩) (v := ?vzna5) rfl (by kernel_rfl) (by kernel_rfl) (by kernel_rfl) (fun _ _ _ h => h) (Or.inl ⟨by rfl, ?yzna5⟩) (by assumption) ?rzna5
                case yzna5 => intro w hSw; (try dsimp only at hSw); go_simp; try with_reducible rfl
                try simp only [Act.put, List.setIfInBounds_toArray, List.set_cons_zero, List.set_cons_succ]
                refine wpAnyH_ready (rs := [3]) (by kernel_rfl) (by simp) ?_
                refine AllReadyH.cons (o := ⟨_, _, _, _, _, _⟩) rfl (fun KK hK => ?_) AllReadyH.nil
                go_simp
                refine (only_any m hm7 _).mono ?_
                rintro e9 W1 ⟨rfl, hBk⟩
                have kk1 : W1.cell? ⟨N + 3, 0, none⟩ = some (goV N) ∧ W1.cell? ⟨w.heap.size, 0, none⟩ = some (.int .u64 (s : Int)) ∧ W1.cell? ⟨P, 0, none⟩ = some (.int .i64 p') ∧ W1.cell? ⟨P, 1, none⟩ = some (.int .i64 q') ∧ W1.cell? ⟨P, 2, none⟩ = some (.int .i64 r') := (by obtain ⟨t0, t1, t2, t3, t4⟩ := kk; exact ⟨celB hBk t0, celB hBk t1, celB hBk t2, celB hBk t3, celB hBk t4⟩)
                have BE := stHi BD hBk
                clear hBk
                go_wp2_with fail
                refine hK.out _ _ kk1 (fun hH3 => ?_)
                clear hK KK hH
                try simp only [Act.put, List.setIfInBounds_toArray, List.set_cons_zero, List.set_cons_succ]
                refine wpAnyH_ready (rs := [4]) (by kernel_rfl) (by simp) ?_
                refine AllReadyH.cons (o := ⟨_, _, _, _, _, _⟩) rfl (fun KK hK => ?_) AllReadyH.nil
                go_simp
                refine (without_any s (2 ^ m) hs128 (two7 hm7) _).mono ?_
                rintro e9 W2 ⟨rfl, hBk⟩
                have kk2 : W2.cell? ⟨N + 3, 0, none⟩ = some (goV N) ∧ W2.cell? ⟨w.heap.size, 0, none⟩ = some (.int .u64 (s : Int)) ∧ W2.cell? ⟨P, 0, none⟩ = some (.int .i64 p') ∧ W2.cell? ⟨P, 1, none⟩ = some (.int .i64 q') ∧ W2.cell? ⟨P, 2, none⟩ = some (.int .i64 r') := (by obtain ⟨t0, t1, t2, t3, t4⟩ := kk1; exact ⟨celB hBk t0, celB hBk t1, celB hBk t2, celB hBk t3, celB hBk t4⟩)
                have BF := stHi BE hBk
                clear hBk
                go_wp2_with fail
                refine hK.out _ _ kk2 (fun hH4 => ?_)
                clear hK KK hH3
                try simp only [Act.put, List.setIfInBounds_toArray, List.set_cons_zero, List.set_cons_succ]
                refine wpAnyH_ready (rs := [6]) (by kernel_rfl) (by simp) ?_
                refine AllReadyH.cons (o := ⟨_, _, _, _, _, _⟩) rfl (fun KK hK => ?_) AllReadyH.nil
                go_simp
                have H5 := H4.bel BF
                refine (IH.out (wo s (2 ^ m)) (ord ++ [(m : Int)]) p' q' r' _ W2 H5 HG.out HL.out (by simp; omega)).mono ?_
                rintro e9 W3 hA
                obtain ⟨g6, cap6, rfl, H6, B6, K6, O6⟩ := hA.no_of hR.out
                have K5 : Kp (N + 2) v1 u9 W3 := (K4.bel BF).step O4 K6
                have kk3 : W3.cell? ⟨N + 3, 0, none⟩ = some (goV N) ∧ W3.cell? ⟨w.heap.size, 0, none⟩ = some (.int .u64 (s : Int)) ∧ W3.cell? ⟨P, 0, none⟩ = some (.int .i64 p') ∧ W3.cell? ⟨P, 1, none⟩ = some (.int .i64 q') ∧ W3.cell? ⟨P, 2, none⟩ = some (.int .i64 r') := by
                  have V6 := K5.vx hPN hPv PV
                  have dS6 := K5.cell (by omega) (by omega) hSv dS3
                  exact ⟨H6.cg, dS6, V6.cells.1, V6.cells.2.1, V6.cells.2.2⟩
                go_wp2_with fail
                refine hK.out _ _ kk3 (fun hH6 => ?_)
                clear hK KK hH4
                try simp only [Act.put, List.setIfInBounds_toArray, List.set_cons_zero, List.set_cons_succ]
                refine wpAnyH_done (by kernel_rfl) (NoPanic.normal ?_) _
                have K7 : Kp (N + 2) v w2 W3 := K3.step HV.out K5
                have B7 : Below N w W3 := BN3.trans ((B4.trans (BF.mono (by have := H4.sz; omega))).trans B6)
                have hz5 := K4.1
                have hz6 := BF.size
                have hz7 := K5.1
                have hzr := HK.out.1
                have hco6 := H6.co.cell
                have hf6 := H6.co.frozen
                obtain ⟨H8, B8, K8⟩ := H6.pop
                have hcp := ownsRow_cap7 (l := ord.length + 1) (by have := H6.own; rw [List.length_append, List.length_singleton] at this; exact this)
                have H9 : Hid (GoSt _ N (.func (.func 25) #[] #[]) (some ⟨mb, mo, none⟩) c l ord _) := H8
                have HB9 : Hid (Below N w _) := B7.trans B8
                have HK9 : Hid (Kp (N + 2) v w2 _) := K7.step (OwnK.trans HV.out (OwnK.trans (n := u9.heap.size) (m := W2.heap.size) O4 O6 (by omega)) (by omega)) (K8 _)
                have HV9 : Hid (OwnK v (.slice (some ⟨g6, 0, none⟩) ord.length cap6) w2.heap.size) := (HV.out.trans (OwnK.trans (n := u9.heap.size) (m := W2.heap.size) O4 O6 (by omega)) (by omega))
                have HT9 : Hid (tried l false n ord s (k + 1)) := tried_next HT.out HM.out (by rw [nxtL_t HF.out]; rcases findL_or (l := l) (cl := false) n (ord ++ [(m : Int)]) with g | g; exact g; exact absurd g hR.out)
                have hol1 : (((ord.length + 1 : Nat) : Int) - 1) = (ord.length : Int) := by omega
                have hcI : (ord.length : Int) ≤ (cap6 : Int) := by omega
                clear K7 B7 H6 B6 K6 O6 K5 kk kk1 kk2 kk3 kk5 H8 B8 K8
                go_wp2
                go_roundg (gq - 1)
                case rel => exact ⟨k + 1, _, by omega, by go_num, H9.out, HB9.out, HK9.out, HV9.out, HT9.out⟩
                case measure => omega
              case h2 =>
                go_simp
                have Bo : Below wr.heap.size wr (wr.drew.alloc (.cells #[.int .i64 0, .int .i64 0, .int .i64 0] 49)) := stHi BD (alHi wr.drew _)
                have kk1 : (wr.drew.alloc (.cells #[.int .i64 0, .int .i64 0, .int .i64 0] 49)).cell? ⟨w.heap.size + 1, 0, none⟩ = some (.int .i64 p) ∧ (wr.drew.alloc (.cells #[.int .i64 0, .int .i64 0, .int .i64 0] 49)).cell? ⟨w.heap.size + 1, 1, none⟩ = some (.int .i64 q) ∧ (wr.drew.alloc (.cells #[.int .i64 0, .int .i64 0, .int .i64 0] 49)).cell? ⟨w.heap.size + 1, 2, none⟩ = some (.int .i64 r) ∧ (wr.drew.alloc (.cells #[.int .i64 0, .int .i64 0, .int .i64 0] 49)).cell? ⟨N, 0, none⟩ = some (.slice (some ⟨mb, mo, none⟩) l.length c) ∧ (wr.drew.alloc (.cells #[.int .i64 0, .int .i64 0, .int .i64 0] 49)).cell? ⟨mb, mo + m * 6, none⟩ = some (.int .i64 x.client) ∧ (wr.drew.alloc (.cells #[.int .i64 0, .int .i64 0, .int .i64 0] 49)).cell? ⟨mb, mo + m * 6 + 1, none⟩ = some (.int .i64 x.object) ∧ (wr.drew.alloc (.cells #[.int .i64 0, .int .i64 0, .int .i64 0] 49)).cell? ⟨mb, mo + m * 6 + 2, none⟩ = some (.bool x.write) ∧ (wr.drew.alloc (.cells #[.int .i64 0, .int .i64 0, .int .i64 0] 49)).cell? ⟨mb, mo + m * 6 + 3, none⟩ = some (.int .i64 x.value) ∧ (wr.drew.alloc (.cells #[.int .i64 0, .int .i64 0, .int .i64 0] 49)).cell? ⟨mb, mo + m * 6 + 4, none⟩ = some (.int .i64 x.beg) ∧ (wr.drew.alloc (.cells #[.int .i64 0, .int .i64 0, .int .i64 0] 49)).cell? ⟨mb, mo + m * 6 + 5, none⟩ = some (.int .i64 x.fin) := (by obtain ⟨t0, t1, t2, t3, t4, t5, t6, t7, t8, t9⟩ := kk; exact ⟨celB (alHi wr.drew _) t0, celB (alHi wr.drew _) t1, celB (alHi wr.drew _) t2, celB (alHi wr.drew _) t3, celB (alHi wr.drew _) t4, celB (alHi wr.drew _) t5, celB (alHi wr.drew _) t6, celB (alHi wr.drew _) t7, celB (alHi wr.drew _) t8, celB (alHi wr.drew _) t9⟩)
                refine hK.out _ _ kk1 (fun hH5 => ?_)
                clear hK KK hH
                try simp only [Act.put, List.setIfInBounds_toArray, List.set_cons_zero, List.set_cons_succ]
                refine wpAnyH_ready (rs := [5]) (by kernel_rfl) (by simp) ?_
                refine AllReadyH.cons (o := ⟨_, _, _, _, _, _⟩) rfl (fun KK hK => ?_) AllReadyH.nil
                go_simp
                refine (behind_t p q r p' q' r' x _ HO2.out HLG.out).mono ?_
                rintro r9 wa ⟨rfl, hBa⟩
                have Ba := stHi Bo hBa
                have kk2 : wa.cell? ⟨w.heap.size + 1, 0, none⟩ = some (.int .i64 p) ∧ wa.cell? ⟨w.heap.size + 1, 1, none⟩ = some (.int .i64 q) ∧ wa.cell? ⟨w.heap.size + 1, 2, none⟩ = some (.int .i64 r) ∧ wa.cell? ⟨N, 0, none⟩ = some (.slice (some ⟨mb, mo, none⟩) l.length c) ∧ wa.cell? ⟨mb, mo + m * 6, none⟩ = some (.int .i64 x.client) ∧ wa.cell? ⟨mb, mo + m * 6 + 1, none⟩ = some (.int .i64 x.object) ∧ wa.cell? ⟨mb, mo + m * 6 + 2, none⟩ = some (.bool x.write) ∧ wa.cell? ⟨mb, mo + m * 6 + 3, none⟩ = some (.int .i64 x.value) ∧ wa.cell? ⟨mb, mo + m * 6 + 4, none⟩ = some (.int .i64 x.beg) ∧ wa.cell? ⟨mb, mo + m * 6 + 5, none⟩ = some (.int .i64 x.fin) := (by obtain ⟨t0, t1, t2, t3, t4, t5, t6, t7, t8, t9⟩ := kk1; exact ⟨celB hBa t0, celB hBa t1, celB hBa t2, celB hBa t3, celB hBa t4, celB hBa t5, celB hBa t6, celB hBa t7, celB hBa t8, celB hBa t9⟩)
                have PV0 : Vx wa wr.heap.size 0 0 0 := by simpa using (Vx.new wr.drew 0 0 0).below hBa
                go_wp2_with fail
                refine hK.out _ _ kk2 (fun hH9 => ?_)
                clear hK KK hH5
                try simp only [Act.put, List.setIfInBounds_toArray, List.set_cons_zero, List.set_cons_succ]
                refine wpAnyH_take (i := 6) (oi := ⟨_, _, _, _, _, _⟩) (v := ?vhb6) rfl (by kernel_rfl) (by kernel_rfl) (by kernel_rfl) (fun _ _ _ h => h) (Or.inl ⟨by rfl, ?yhb6⟩) (by assumption) ?rhb6
                case yhb6 => intro w hSw; (try dsimp only at hSw); go_simp; try with_reducible rfl
                try simp only [Act.put, List.setIfInBounds_toArray, List.set_cons_zero, List.set_cons_succ]
                refine wpAnyH_take (i := 7) (oi := ⟨_, _, _, _, _, _⟩) (v := ?vhb7) rfl (by kernel_rfl) (by kernel_rfl) (by kernel_rfl) (fun _ _ _ h => h) (Or.inl ⟨by rfl, ?yhb7⟩) (by assumption) ?rhb7
                case yhb7 => intro w hSw; (try dsimp only at hSw); go_simp; try with_reducible rfl
                try simp only [Act.put, List.setIfInBounds_toArray, List.set_cons_zero, List.set_cons_succ]
                refine wpAnyH_take (i := 8) (oi := ⟨_, _, _, _, _, _⟩) (v := ?vhb8) rfl (by kernel_rfl) (by kernel_rfl) (by kernel_rfl) (fun _ _ _ h => h) (Or.inl ⟨by rfl, ?yhb8⟩) (by assumption) ?rhb8
                case yhb8 => intro w hSw; (try dsimp only at hSw); go_simp; try with_reducible rfl
                try simp only [Act.put, List.setIfInBounds_toArray, List.set_cons_zero, List.set_cons_succ]
                refine wpAnyH_ready (rs := [10]) (by kernel_rfl) (by simp) ?_
                refine AllReadyH.cons (o := ⟨_, _, _, _, _, _⟩) rfl (fun KK hK => ?_) AllReadyH.nil
                have PVf : ∀ i, wa.frozen? ⟨wr.heap.size, i, none⟩ = false := fun i => World.rowIs.frozen PV0 i
                obtain ⟨PV1, PV2, PV3⟩ := PV0.cells
                go_simp
                have Bp : Below wr.heap.size wr ((((wa).setCell ⟨wr.heap.size, 0, none⟩ (.int .i64 p')).setCell ⟨wr.heap.size, 1, none⟩ (.int .i64 q')).setCell ⟨wr.heap.size, 2, none⟩ (.int .i64 r')) := ((Ba.setCell (Nat.le_refl _) _).setCell (Nat.le_refl _) _).setCell (Nat.le_refl _) _
                have kk3 : ((((wa).setCell ⟨wr.heap.size, 0, none⟩ (.int .i64 p')).setCell ⟨wr.heap.size, 1, none⟩ (.int .i64 q')).setCell ⟨wr.heap.size, 2, none⟩ (.int .i64 r')).cell? ⟨w.heap.size + 1, 0, none⟩ = some (.int .i64 p) ∧ ((((wa).setCell ⟨wr.heap.size, 0, none⟩ (.int .i64 p')).setCell ⟨wr.heap.size, 1, none⟩ (.int .i64 q')).setCell ⟨wr.heap.size, 2, none⟩ (.int .i64 r')).cell? ⟨w.heap.size + 1, 1, none⟩ = some (.int .i64 q) ∧ ((((wa).setCell ⟨wr.heap.size, 0, none⟩ (.int .i64 p')).setCell ⟨wr.heap.size, 1, none⟩ (.int .i64 q')).setCell ⟨wr.heap.size, 2, none⟩ (.int .i64 r')).cell? ⟨w.heap.size + 1, 2, none⟩ = some (.int .i64 r) ∧ ((((wa).setCell ⟨wr.heap.size, 0, none⟩ (.int .i64 p')).setCell ⟨wr.heap.size, 1, none⟩ (.int .i64 q')).setCell ⟨wr.heap.size, 2, none⟩ (.int .i64 r')).cell? ⟨N, 0, none⟩ = some (.slice (some ⟨mb, mo, none⟩) l.length c) ∧ ((((wa).setCell ⟨wr.heap.size, 0, none⟩ (.int .i64 p')).setCell ⟨wr.heap.size, 1, none⟩ (.int .i64 q')).setCell ⟨wr.heap.size, 2, none⟩ (.int .i64 r')).cell? ⟨mb, mo + m * 6, none⟩ = some (.int .i64 x.client) ∧ ((((wa).setCell ⟨wr.heap.size, 0, none⟩ (.int .i64 p')).setCell ⟨wr.heap.size, 1, none⟩ (.int .i64 q')).setCell ⟨wr.heap.size, 2, none⟩ (.int .i64 r')).cell? ⟨mb, mo + m * 6 + 1, none⟩ = some (.int .i64 x.object) ∧ ((((wa).setCell ⟨wr.heap.size, 0, none⟩ (.int .i64 p')).setCell ⟨wr.heap.size, 1, none⟩ (.int .i64 q')).setCell ⟨wr.heap.size, 2, none⟩ (.int .i64 r')).cell? ⟨mb, mo + m * 6 + 2, none⟩ = some (.bool x.write) ∧ ((((wa).setCell ⟨wr.heap.size, 0, none⟩ (.int .i64 p')).setCell ⟨wr.heap.size, 1, none⟩ (.int .i64 q')).setCell ⟨wr.heap.size, 2, none⟩ (.int .i64 r')).cell? ⟨mb, mo + m * 6 + 3, none⟩ = some (.int .i64 x.value) ∧ ((((wa).setCell ⟨wr.heap.size, 0, none⟩ (.int .i64 p')).setCell ⟨wr.heap.size, 1, none⟩ (.int .i64 q')).setCell ⟨wr.heap.size, 2, none⟩ (.int .i64 r')).cell? ⟨mb, mo + m * 6 + 4, none⟩ = some (.int .i64 x.beg) ∧ ((((wa).setCell ⟨wr.heap.size, 0, none⟩ (.int .i64 p')).setCell ⟨wr.heap.size, 1, none⟩ (.int .i64 q')).setCell ⟨wr.heap.size, 2, none⟩ (.int .i64 r')).cell? ⟨mb, mo + m * 6 + 5, none⟩ = some (.int .i64 x.fin) := (by obtain ⟨t0, t1, t2, t3, t4, t5, t6, t7, t8, t9⟩ := kkw; exact ⟨celB Bp t0, celB Bp t1, celB Bp t2, celB Bp t3, celB Bp t4, celB Bp t5, celB Bp t6, celB Bp t7, celB Bp t8, celB Bp t9⟩)
                have PV := PV0.put p' q' r'
                refine hK.out _ _ kk3 (fun hH10 => ?_)
                clear hK KK hH9
                try simp only [Act.put, List.setIfInBounds_toArray, List.set_cons_zero, List.set_cons_succ]
                refine wpAnyH_take (i := 11) (oi := ⟨_, _, _, _, _, _⟩) (v := ?vhb11) rfl (by kernel_rfl) (by kernel_rfl) (by kernel_rfl) (fun _ _ _ h => h) (Or.inl ⟨by rfl, ?yhb11⟩) (by assumption) ?rhb11
                case yhb11 => intro w hSw; (try dsimp only at hSw); go_simp; try with_reducible rfl
                try simp only [Act.put, List.setIfInBounds_toArray, List.set_cons_zero, List.set_cons_succ]
                refine wpAnyH_done (by kernel_rfl) (NoPanic.normal ?_) _
                clear hBa kk2 kk1 Bo PV0 PVf PV1 PV2 PV3
                generalize (((wa).setCell ⟨wr.heap.size, 0, none⟩ (.int .i64 p')).setCell ⟨wr.heap.size, 1, none⟩ (.int .i64 q')).setCell ⟨wr.heap.size, 2, none⟩ (.int .i64 r') = u9 at *
                obtain ⟨P, hPe⟩ : ∃ P, wr.heap.size = P := ⟨_, rfl⟩
                have PV9 : Vx u9 P p' q' r' := by rw [← hPe]; exact PV
                have hP : wr.heap.size ≤ P := Nat.le_of_eq hPe
                replace PV := PV9
                clear PV9
                rw [hPe]
                clear hPe
                have hzk := HK.out.1
                have B9 := stHi hB Bp
                have H3 := H1.out.bel B9
                have K3 := HK.out.bel B9
                have BN3 : Below N w u9 := HB.out.trans (B9.mono (by have := H1.out.sz; omega))
                have hco := H3.co.cell
                have hol : ord.length ≤ 7 := by omega
                have hz9 := B9.size
                have hPv : some P ≠ v1.ownBlock := fun e => by have := (H1.out.lt e.symm).2; omega
                have hPN : P ≠ N + 2 := by have := H1.out.sz; omega
                have hSv : some w.heap.size ≠ v1.ownBlock := fun e => by have := HV.out _ e.symm; rcases this with g | g; exact absurd (hvb.out _ g) (by omega); omega
                have dS3 := (Kp.of_below (BO := N + 2) (v := v) B9).cell (b := w.heap.size) (off := 0) (by omega) (by omega) hS0 dS
                (try clear kk1)
                clear kk3 hH10 BD Ba
                go_wp2_with (at_builtin; refine wpList_append_lies _ rfl _ _ 24 rfl (N + 4) 3 i0 _ 1 8 Tryd.underlying24 hi hz0 hz1 hz2 rfl (by decide) v1 ord.length (zCells ord) rfl (H3.own.alloc _) ⟨u9.heap.size, 0, none⟩ 1 1 (zCells [(m : Int)]) rfl rfl ?c1nb ?c2nb (by omega) ?c3nb ?c4nb ?c5nb (u9.heap.size + 1) ?c6nb ?_)
                case c1nb => exact World.news_of_block (cs := #[.int .i64 (m : Int)]) (t := 3) (fr := (0, 0)) (by first | exact (heap_alloc_new u9 _) | simpa using (heap_alloc_new u9 _))
                case c2nb => simp [zCells, Value.oneCell']
                case c3nb => unfold maxLen; omega
                case c4nb => omega
                case c5nb => have := H3.sz; simp; omega
                case c6nb => simp
                intro g4 cap4 w4 hown4 hgrow4 hat4 hg4
                obtain ⟨hv4, H4, B4, K4, O4⟩ := H3.grow hown4 hgrow4 hat4
                have hc4 := hv4.cell
                have hf4 := hv4.frozen
                clear hown4 hgrow4 hat4 hg4 hv4 hco
                go_wp2_with fail
                generalize (w4.setCell ⟨N + 2, 0, none⟩ (.slice (some ⟨g4, 0, none⟩) (ord.length + 1) cap4)) = w5 at *
                have V5 := K4.vx hPN hPv PV
                have dS5 := K4.cell (by omega) (by omega) hSv dS3
                have dG5 := H4.cg
                have kk5 : w5.cell? ⟨N + 3, 0, none⟩ = some (goV N) ∧ w5.cell? ⟨w.heap.size, 0, none⟩ = some (.int .u64 (s : Int)) ∧ w5.cell? ⟨P, 0, none⟩ = some (.int .i64 p') ∧ w5.cell? ⟨P, 1, none⟩ = some (.int .i64 q') ∧ w5.cell? ⟨P, 2, none⟩ = some (.int .i64 r') := ⟨dG5, dS5, V5.cells.1, V5.cells.2.1, V5.cells.2.2⟩
                have BD : Below w5.heap.size w5 w5.drew := (Below.refl _ _).drew
                have kk : w5.drew.cell? ⟨N + 3, 0, none⟩ = some (goV N) ∧ w5.drew.cell? ⟨w.heap.size, 0, none⟩ = some (.int .u64 (s : Int)) ∧ w5.drew.cell? ⟨P, 0, none⟩ = some (.int .i64 p') ∧ w5.drew.cell? ⟨P, 1, none⟩ = some (.int .i64 q') ∧ w5.drew.cell? ⟨P, 2, none⟩ = some (.int .i64 r') := (by obtain ⟨t0, t1, t2, t3, t4⟩ := kk5; exact ⟨celB BD t0, celB BD t1, celB BD t2, celB BD t3, celB BD t4⟩)
                clear hc4 hf4
                clear dG5 dS5 V5
                refine wp_region_noPanic ?_
                refine wp_region_held_drew (S := fun w' => w'.cell? ⟨N + 3, 0, none⟩ = some (goV N) ∧ w'.cell? ⟨w.heap.size, 0, none⟩ = some (.int .u64 (s : Int)) ∧ w'.cell? ⟨P, 0, none⟩ = some (.int .i64 p') ∧ w'.cell? ⟨P, 1, none⟩ = some (.int .i64 q') ∧ w'.cell? ⟨P, 2, none⟩ = some (.int .i64 r')) (by kernel_rfl) kk (fun hH => ?_)
                refine wpAnyH_take (i := 0) (oi := ⟨_, _, _, _, _, _⟩) (v := ?vznb0) rfl (by kernel_rfl) (by kernel_rfl) (by kernel_rfl) (fun _ _ _ h => h) (Or.inl ⟨by rfl, ?yznb0⟩) (by assumption) ?rznb0
                case yznb0 => intro w hSw; (try dsimp only at hSw); go_simp; try with_reducible rfl
                try simp only [Act.put, List.setIfInBounds_toArray, List.set_cons_zero, List.set_cons_succ]
                refine wpAnyH_take (i := 1) (oi := ⟨_, _, _, _, _, _⟩) (v := ?vznb1) rfl (by kernel_rfl) (by kernel_rfl) (by kernel_rfl) (fun _ _ _ h => h) (Or.inl ⟨by rfl, ?yznb1⟩) (by assumption) ?rznb1
                case yznb1 => intro w hSw; (try dsimp only at hSw); go_simp; try with_reducible rfl
                try simp only [Act.put, List.setIfInBounds_toArray, List.set_cons_zero, List.set_cons_succ]
                refine wpAnyH_take (i := 2) (oi := ⟨_, _, _, _, _, _⟩) (v := ?vznb2) rfl (by kernel_rfl) (by kernel_rfl) (by kernel_rfl) (fun _ _ _ h => h) (Or.inl ⟨by rfl, ?yznb2⟩) (by assumption) ?rznb2
                case yznb2 => intro w hSw; (try dsimp only at hSw); go_simp; try with_reducible rfl
                try simp only [Act.put, List.setIfInBounds_toArray, List.set_cons_zero, List.set_cons_succ]
                refine wpAnyH_take (i := 5) (oi := ⟨_, _, _, _, _, _⟩) (v := ?vznb5) rfl (by kernel_rfl) (by kernel_rfl) (by kernel_rfl) (fun _ _ _ h => h) (Or.inl ⟨by rfl, ?yznb5⟩) (by assumption) ?rznb5
                case yznb5 => intro w hSw; (try dsimp only at hSw); go_simp; try with_reducible rfl
                try simp only [Act.put, List.setIfInBounds_toArray, List.set_cons_zero, List.set_cons_succ]
                refine wpAnyH_ready (rs := [3]) (by kernel_rfl) (by simp) ?_
                refine AllReadyH.cons (o := ⟨_, _, _, _, _, _⟩) rfl (fun KK hK => ?_) AllReadyH.nil
                go_simp
                refine (only_any m hm7 _).mono ?_
                rintro e9 W1 ⟨rfl, hBk⟩
                have kk1 : W1.cell? ⟨N + 3, 0, none⟩ = some (goV N) ∧ W1.cell? ⟨w.heap.size, 0, none⟩ = some (.int .u64 (s : Int)) ∧ W1.cell? ⟨P, 0, none⟩ = some (.int .i64 p') ∧ W1.cell? ⟨P, 1, none⟩ = some (.int .i64 q') ∧ W1.cell? ⟨P, 2, none⟩ = some (.int .i64 r') := (by obtain ⟨t0, t1, t2, t3, t4⟩ := kk; exact ⟨celB hBk t0, celB hBk t1, celB hBk t2, celB hBk t3, celB hBk t4⟩)
                have BE := stHi BD hBk
                clear hBk
                go_wp2_with fail
                refine hK.out _ _ kk1 (fun hH3 => ?_)
                clear hK KK hH
                try simp only [Act.put, List.setIfInBounds_toArray, List.set_cons_zero, List.set_cons_succ]
                refine wpAnyH_ready (rs := [4]) (by kernel_rfl) (by simp) ?_
                refine AllReadyH.cons (o := ⟨_, _, _, _, _, _⟩) rfl (fun KK hK => ?_) AllReadyH.nil
                go_simp
                refine (without_any s (2 ^ m) hs128 (two7 hm7) _).mono ?_
                rintro e9 W2 ⟨rfl, hBk⟩
                have kk2 : W2.cell? ⟨N + 3, 0, none⟩ = some (goV N) ∧ W2.cell? ⟨w.heap.size, 0, none⟩ = some (.int .u64 (s : Int)) ∧ W2.cell? ⟨P, 0, none⟩ = some (.int .i64 p') ∧ W2.cell? ⟨P, 1, none⟩ = some (.int .i64 q') ∧ W2.cell? ⟨P, 2, none⟩ = some (.int .i64 r') := (by obtain ⟨t0, t1, t2, t3, t4⟩ := kk1; exact ⟨celB hBk t0, celB hBk t1, celB hBk t2, celB hBk t3, celB hBk t4⟩)
                have BF := stHi BE hBk
                clear hBk
                go_wp2_with fail
                refine hK.out _ _ kk2 (fun hH4 => ?_)
                clear hK KK hH3
                try simp only [Act.put, List.setIfInBounds_toArray, List.set_cons_zero, List.set_cons_succ]
                refine wpAnyH_ready (rs := [6]) (by kernel_rfl) (by simp) ?_
                refine AllReadyH.cons (o := ⟨_, _, _, _, _, _⟩) rfl (fun KK hK => ?_) AllReadyH.nil
                go_simp
                have H5 := H4.bel BF
                refine (IH.out (wo s (2 ^ m)) (ord ++ [(m : Int)]) p' q' r' _ W2 H5 HG.out HL.out (by simp; omega)).mono ?_
                rintro e9 W3 hA
                obtain ⟨g6, cap6, rfl, H6, B6, K6, O6⟩ := hA.no_of hR.out
                have K5 : Kp (N + 2) v1 u9 W3 := (K4.bel BF).step O4 K6
                have kk3 : W3.cell? ⟨N + 3, 0, none⟩ = some (goV N) ∧ W3.cell? ⟨w.heap.size, 0, none⟩ = some (.int .u64 (s : Int)) ∧ W3.cell? ⟨P, 0, none⟩ = some (.int .i64 p') ∧ W3.cell? ⟨P, 1, none⟩ = some (.int .i64 q') ∧ W3.cell? ⟨P, 2, none⟩ = some (.int .i64 r') := by
                  have V6 := K5.vx hPN hPv PV
                  have dS6 := K5.cell (by omega) (by omega) hSv dS3
                  exact ⟨H6.cg, dS6, V6.cells.1, V6.cells.2.1, V6.cells.2.2⟩
                go_wp2_with fail
                refine hK.out _ _ kk3 (fun hH6 => ?_)
                clear hK KK hH4
                try simp only [Act.put, List.setIfInBounds_toArray, List.set_cons_zero, List.set_cons_succ]
                refine wpAnyH_done (by kernel_rfl) (NoPanic.normal ?_) _
                have K7 : Kp (N + 2) v w2 W3 := K3.step HV.out K5
                have B7 : Below N w W3 := BN3.trans ((B4.trans (BF.mono (by have := H4.sz; omega))).trans B6)
                have hz5 := K4.1
                have hz6 := BF.size
                have hz7 := K5.1
                have hzr := HK.out.1
                have hco6 := H6.co.cell
                have hf6 := H6.co.frozen
                obtain ⟨H8, B8, K8⟩ := H6.pop
                have hcp := ownsRow_cap7 (l := ord.length + 1) (by have := H6.own; rw [List.length_append, List.length_singleton] at this; exact this)
                have H9 : Hid (GoSt _ N (.func (.func 25) #[] #[]) (some ⟨mb, mo, none⟩) c l ord _) := H8
                have HB9 : Hid (Below N w _) := B7.trans B8
                have HK9 : Hid (Kp (N + 2) v w2 _) := K7.step (OwnK.trans HV.out (OwnK.trans (n := u9.heap.size) (m := W2.heap.size) O4 O6 (by omega)) (by omega)) (K8 _)
                have HV9 : Hid (OwnK v (.slice (some ⟨g6, 0, none⟩) ord.length cap6) w2.heap.size) := (HV.out.trans (OwnK.trans (n := u9.heap.size) (m := W2.heap.size) O4 O6 (by omega)) (by omega))
                have HT9 : Hid (tried l false n ord s (k + 1)) := tried_next HT.out HM.out (by rw [nxtL_t HF.out]; rcases findL_or (l := l) (cl := false) n (ord ++ [(m : Int)]) with g | g; exact g; exact absurd g hR.out)
                have hol1 : (((ord.length + 1 : Nat) : Int) - 1) = (ord.length : Int) := by omega
                have hcI : (ord.length : Int) ≤ (cap6 : Int) := by omega
                clear K7 B7 H6 B6 K6 O6 K5 kk kk1 kk2 kk3 kk5 H8 B8 K8
                go_wp2
                go_roundg (gq - 1)
                case rel => exact ⟨k + 1, _, by omega, by go_num, H9.out, HB9.out, HK9.out, HV9.out, HT9.out⟩
                case measure => omega
    · obtain rfl : k = (mi s).length := by omega
      have hfn := find_none hgo hlg hle (by have := HT.out; rw [hlen] at this; exact this)
      have HA : Hid (GoAns false (n + 1) N (.func (.func 25) #[] #[]) a c l ord v w (.returned (.bool false)) wq) := GoAns.no (by rw [hfn]; simp; omega) H1.out HB.out ((Kp.of_below B2).step (OwnK.refl _ _) HK.out) (OwnK.trans (OwnK.refl v w.heap.size) HV.out B2.size)
      have hl0 : (((mi s).length : Int) == 0) = false := by rw [hlen]; simp; omega
      clear hfn
      go_wp2
      try rw [Exit.noGoto_ret]
      go_ret
      exact HA.out

theorem gof_any (l : List Cl) (a : Option Addr) (c N : Nat) (hg : goodCl l = true) : ∀ n, GoC false (.func (.func 25) #[] #[]) l a c N n
  | 0 => gof_zero l a c N _
  | n + 1 => gof_step l a c N n hg _ rfl (gof_any l a c N hg n)

end Go.Proofs.YtmbfdonefpegeaaDoor
