/-
  Drawn batches: the contract of spec.(*l1Cur).batches.
-/
import Derived.Test.YtlinincmlilbjaaDoorBatE
import Derived.Test.YtlinincmlilbjaaDoorLogT
import Derived.Deep.RegionHeld3
import Derived.Deep.CutRange
import Derived.Deep.LoopGhost
import Derived.RegionTactic
namespace Go.Proofs.YtlinincmlilbjaaDoor
open Go.RowKit

set_option maxRecDepth 100000 in
set_option maxHeartbeats 8000000 in
theorem batches_any : BatchesC := by
  intro p a bs c z w h hp hz
  obtain ⟨i0, hi, hz0, hz1, hz2⟩ := info_parts Tryd.infoBatch
  have S0 : QSt w w p a bs c (.slice none 0 0) [] z := ⟨⟨w, rfl, rd_start w⟩, h, Far.refl _ _⟩
  go_enter Tryd.func42, Tryd.ntmps42
  go_wp2_with fail
  refine (pick_any _ _ _ _ _ _ _ h (by omega)).mono ?_
  rintro r w1 ⟨at0, rfl, hat0, k1⟩
  obtain ⟨z1, hz1', S1⟩ := S0.drew hp k1
  go_wp2_with fail
  refine (pick_any _ _ _ _ _ _ _ S1.cur (by omega)).mono ?_
  rintro r w2 ⟨n, rfl, hn, k2⟩
  obtain ⟨z2, hz2', S2⟩ := S1.drew hp k2
  have hn5 : n ≤ 5 := by omega
  have hat2 : (at0 : Int) ≤ 2 := by omega
  have hat3 : (0 : Int) ≤ (at0 : Int) := by omega
  generalize (at0 : Int) = at1 at *
  clear S0 S1 k1 k2 h hn hat0
  go_wp2_with fail
  go_loopg [3, 4, 5, 6] n (fun gn v s4 s5 nv wr => ∃ (qs : List Q) (at_ ep : Int) (zz : Nat), s4 = .int .i64 at_ ∧ s5 = .int .i64 ep ∧ nv = .int .i64 (gn : Int) ∧ 0 ≤ at_ ∧ at_ + 8 * gn ≤ 60 ∧ 0 ≤ ep ∧ ep + gn ≤ 10 ∧ qs.length + gn ≤ 5 ∧ zz + 200 * gn ≤ z + 1004 ∧ Hid (QSt w wr p a bs c v qs zz))
  case atStart => exact ⟨[], at1, 0, z2, rfl, rfl, rfl, hat3, by omega, by omega, by omega, by simp; omega, by omega, S2⟩
  case round =>
    obtain ⟨qs, at_, ep, zz, rfl, rfl, rfl, ha0, ha1, he0, he1, hql, hzz, st⟩ := hrel
    obtain ⟨v, hv⟩ : ∃ x, x = u3 := ⟨_, rfl⟩
    subst hv
    clear S2 hat2 hat3
    by_cases hpos : 0 < gk
    · have hpI : (0 : Int) < (gk : Int) := by omega
      have hM : w.heap.size ≤ wr.heap.size := st.out.far.bel.size
      go_wp2_with fail
      refine (batch_any p a bs c zz _ st.out.cur (by omega) (by omega)).mono ?_
      rintro r w3 ⟨x, ra, rc, rfl, hown, hsm, hle, z3, hz3, C3, f3⟩
      have old : ∀ q, q ∈ qs → ∀ k, q.blk = some k → k < wr.heap.size := by
        obtain ⟨w0, e0, r0⟩ := st.out.rd
        exact fun q hq k hk => ((r0.recs q hq).1.lt k hk).2
      have vlt : ∀ k, v.ownBlock = some k → k < wr.heap.size := fun k hk => (st.out.own.lt k hk).2
      obtain ⟨M, hMM⟩ : ∃ M, wr.heap.size = M := ⟨_, rfl⟩
      rw [hMM] at old vlt hown hM
      obtain ⟨eb, heb⟩ : ∃ b, w3.heap.size = b := ⟨_, rfl⟩
      obtain ⟨w4, hw4⟩ : ∃ u, w3.alloc (.cells #[.int .i64 x.off, .int .i64 x.ep, .int .i64 x.pr, .int .i64 x.sq, .slice ra x.recs.length rc] 25) = u := ⟨_, rfl⟩
      have B4 : Below w3.heap.size w3 w4 := by rw [← hw4]; exact (Below.refl _ _).alloc (Nat.le_refl _) _
      have l3 := f3.bel.size
      have R4 : RSt w w4 p a bs c v qs z3 M eb x ra rc := by
        refine ⟨(st.out.step hp f3 C3).step hp (Far.of_below B4 (by omega)) (C3.below B4), owns_below hown B4, hsm, hle, ?_, by omega, fun e => by have := (hown.lt _ e).2; omega, hM, old, vlt⟩
        rw [← heb, ← hw4]
        exact BoxB.new w3 x _
      have HEB : Hid (w3.heap.size = eb) := heb
      have HW4 := (show Hid _ from hw4)
      have hx8 : x.recs.length ≤ maxLen := by unfold maxLen; omega
      clear heb hw4 B4 st C3 f3 hown hsm old vlt hM hMM l3
      go_wp2_with fail
      try rw [HW4.out]
      try rw [HEB.out]
      clear HW4 HEB
      refine (specGood_any _ _ _ _ x.recs ra rc _ (strs_of_owns R4.own R4.sm) hx8).mono ?_
      rintro r w5 ⟨rfl, hB5⟩
      have R5 := R4.below hp hB5
      clear R4 hB5 hx8
      generalize Bt.good _ = gd at *
      cases gd
      · have HQ5 := (show Hid _ from R5.q)
        clear R5
        have hgI : (gk : Int) - 1 = ((gk - 1 : Nat) : Int) := by omega
        go_wp2_with fail
        go_roundg (gk - 1)
        case measure => omega
        case rel => exact ⟨qs, at_, ep, z3, rfl, rfl, by first | rfl | (congr 1), ha0, by omega, he0, by omega, by omega, by omega, HQ5.out⟩
      · go_wp2_with fail
        refine (pick_any _ _ _ _ _ _ _ R5.q.cur (by omega)).mono ?_
        rintro r w6 ⟨d, rfl, hd, k6⟩
        obtain ⟨z6, hz6, R6⟩ := R5.drew hp k6
        have hd1 : (d : Int) ≤ 1 := by omega
        have hd0 : (0 : Int) ≤ (d : Int) := by omega
        clear R5 k6 hd
        generalize (d : Int) = dd at *
        obtain ⟨ep2, hep⟩ : ∃ e, ep + dd = e := ⟨_, rfl⟩
        obtain ⟨b0, b1, b2, b3, b4⟩ := R6.bx.at_
        have bf := R6.bx.fr
        have R7 := (R6.set0 hp at_).set1 hp ep2
        obtain ⟨w7, hw7⟩ : ∃ u, (w6.setCell ⟨eb, 0, none⟩ (.int .i64 at_)).setCell ⟨eb, 1, none⟩ (.int .i64 ep2) = u := ⟨_, rfl⟩
        rw [hw7] at R7
        go_upto_region 12 with fail
        try rw [hep]
        try rw [hw7]
        clear hw7 b0 b1 b2 b3 b4 bf R6
        obtain ⟨b0, b1, b2, b3, b4⟩ := R7.bx.at_
        have hle := R7.le
        simp only at b0 b1 b2 b3 b4 hle
        have hal := fun (o : Obj) => R7.below hp ((Below.refl w7.heap.size w7).alloc (Nat.le_refl _) o)
        have hw7s : w.heap.size ≤ w7.heap.size := R7.q.far.bel.size
        go_wp2_with (at_builtin; refine wpList_append_lies _ rfl _ _ 69 rfl w.heap.size 25 i0 _ 5 56 Tryd.underlying69 hi hz0 hz1 hz2 rfl (by decide) v qs.length (qsCells qs) rfl (hal _).q.own ⟨w7.heap.size, 0, none⟩ 1 1 (qCells ⟨⟨at_, ep2, x.pr, x.sq, x.recs⟩, ra, rc⟩) rfl rfl ?c1 ?c2 (by omega) ?c3 ?c4 ?c5 (w7.heap.size + 1) ?c6 ?_)
        case c1 => exact World.news_of_block (cs := #[.int .i64 at_, .int .i64 ep2, .int .i64 x.pr, .int .i64 x.sq, .slice ra x.recs.length rc]) (t := 25) (fr := (0, 0)) (by first | exact (heap_alloc_new w7 _) | simpa using (heap_alloc_new w7 _))
        case c2 => simp [qCells, Value.oneCell']
        case c3 => unfold maxLen; omega
        case c4 => omega
        case c5 => simp; omega
        case c6 => simp
        intro g4 cap4 wf hown4 hgrow4 hat4 _
        have SN : Hid (QSt w wf p a bs c (.slice (some ⟨g4, 0, none⟩) (qs.length + 1) cap4) (qs ++ [⟨⟨at_, ep2, x.pr, x.sq, x.recs⟩, ra, rc⟩]) z6) := (hal _).push hp hgrow4 hown4 (hat4.imp id (fun e => by simpa using e))
        have hgI : (gk : Int) - 1 = ((gk - 1 : Nat) : Int) := by omega
        clear hown4 hgrow4 hat4 hal R7 b0 b1 b2 b3 b4
        go_wp2_with fail
        go_roundg (gk - 1)
        case measure => omega
        case rel => exact ⟨_, at_ + (x.recs.length : Int), ep2, z6, rfl, rfl, by first | rfl | (congr 1), by omega, by omega, by omega, by omega, by simp; omega, by omega, SN.out⟩
    · obtain rfl : gk = 0 := by omega
      have Q0 := st.out
      obtain ⟨av, cv, rfl, hcv⟩ := Q0.form
      clear st
      by_cases hl0 : 0 < qs.length
      · have hlI : (0 : Int) < (qs.length : Int) := by omega
        go_wp2_with fail
        refine (one_any _ _ _ _ _ _ _ Q0.cur (by omega)).mono ?_
        rintro r v1 ⟨b1, rfl, k1⟩
        obtain ⟨za, hza, Q1⟩ := Q0.drew hp k1
        clear Q0 k1
        cases b1
        · have HQ := (show Hid _ from Q1)
          clear Q1
          go_wp2
          go_ret
          obtain ⟨w0, e0, r0⟩ := HQ.out.rd
          exact ⟨av, cv, qsB qs, by first | (rw [qsB_len]; done) | (rw [qsB_len]; rfl), rd_bats r0, by rw [qsB_len]; exact hcv, by rw [qsB_len]; omega, za, by omega, HQ.out.cur, HQ.out.far⟩
        · go_wp2_with fail
          refine (pick_any _ _ _ _ _ _ _ Q1.cur (by omega)).mono ?_
          rintro r v2 ⟨k, rfl, hk, k2⟩
          have hk2 : k < qs.length := by omega
          have hkI : (k : Int) < (qs.length : Int) := by omega
          have hk0 : (0 : Int) ≤ (k : Int) := by omega
          obtain ⟨zb, hzb, Q2⟩ := Q1.drew hp k2
          clear Q1 k2 hk
          obtain ⟨g, rfl⟩ : ∃ g, av = some ⟨g, 0, none⟩ := by
            obtain ⟨w0, e0, r0⟩ := Q2.rd
            obtain ⟨g, q, e, -⟩ := bats_off r0 hk2
            exact ⟨g, e⟩
          go_wp2_with fail
          have BD : Below v2.heap.size v2 v2.drew := (Below.refl _ _).drew
          have Q3 := Q2.step hp (Far.of_below BD (by have := Q2.far.bel.size; omega)) (Q2.cur.below BD)
          refine wp_region_noPanic ?_
          refine wp_region_held_drew (S := fun _ => True) (by kernel_rfl) trivial (fun hH => ?_)
          clear hH
          obtain ⟨x9, hx9⟩ : ∃ x, v2.drew = x := ⟨_, rfl⟩
          rw [hx9] at Q3
          try rw [hx9]
          clear hx9 BD Q2
          refine wpAnyH_take (i := 0) (oi := ⟨_, _, _, _, _, _⟩) (v := ?va0) rfl (by kernel_rfl) (by kernel_rfl) (by kernel_rfl) (fun _ _ _ h => h) (Or.inl ⟨by rfl, ?ya0⟩) trivial ?ra0
          case ya0 => intro w hSw; clear hSw; go_simp; try with_reducible rfl
          try simp only [Act.put, List.setIfInBounds_toArray, List.set_cons_zero, List.set_cons_succ]
          refine wpAnyH_take (i := 1) (oi := ⟨_, _, _, _, _, _⟩) (v := ?va1) rfl (by kernel_rfl) (by kernel_rfl) (by kernel_rfl) (fun _ _ _ h => h) (Or.inl ⟨by rfl, ?ya1⟩) trivial ?ra1
          case ya1 => intro w hSw; clear hSw; go_simp; try with_reducible rfl
          try simp only [Act.put, List.setIfInBounds_toArray, List.set_cons_zero, List.set_cons_succ]
          refine wpAnyH_take (i := 2) (oi := ⟨_, _, _, _, _, _⟩) (v := ?va2) rfl (by kernel_rfl) (by kernel_rfl) (by kernel_rfl) (fun _ _ _ h => h) (Or.inl ⟨by rfl, ?ya2⟩) trivial ?ra2
          case ya2 => intro w hSw; clear hSw; go_simp; try with_reducible rfl
          try simp only [Act.put, List.setIfInBounds_toArray, List.set_cons_zero, List.set_cons_succ]
          refine wpAnyH_take (i := 3) (oi := ⟨_, _, _, _, _, _⟩) (v := ?va3) rfl (by kernel_rfl) (by kernel_rfl) (by kernel_rfl) (fun _ _ _ h => h) (Or.inl ⟨by rfl, ?ya3⟩) trivial ?ra3
          case ya3 => intro w hSw; clear hSw; go_simp; try with_reducible rfl
          try simp only [Act.put, List.setIfInBounds_toArray, List.set_cons_zero, List.set_cons_succ]
          refine wpAnyH_take (i := 5) (oi := ⟨_, _, _, _, _, _⟩) (v := ?va5) rfl (by kernel_rfl) (by kernel_rfl) (by kernel_rfl) (fun _ _ _ h => h) (Or.inl ⟨by rfl, ?ya5⟩) trivial ?ra5
          case ya5 => intro w hSw; clear hSw; go_simp; try with_reducible rfl
          try simp only [Act.put, List.setIfInBounds_toArray, List.set_cons_zero, List.set_cons_succ]
          refine wpAnyH_ready (rs := [4, 6]) (by kernel_rfl) (by simp) ?_
          refine AllReadyH.cons (o := ⟨_, _, _, _, _, _⟩) rfl (fun KK hK => ?g1_4) (AllReadyH.cons (o := ⟨_, _, _, _, _, _⟩) rfl (fun KK hK => ?g1_6) AllReadyH.nil)
          case g1_4 =>
            obtain ⟨w0, e0, r0⟩ := Q3.rd
            obtain ⟨g9, q9, ea, hg, hcl, -, -⟩ := bats_off r0 hk2
            simp only [Option.some.injEq, Addr.mk.injEq, and_true] at ea
            subst ea
            obtain ⟨o9, ho9⟩ : ∃ o, q9.b.off = o := ⟨_, rfl⟩
            rw [ho9] at hcl
            clear r0 ho9
            go_simp
            clear hcl
            refine hK.out _ _ trivial (fun hHn => ?_)
            clear hK KK hHn
            try simp only [Act.put, List.setIfInBounds_toArray, List.set_cons_zero, List.set_cons_succ]
            refine wpAnyH_ready (rs := [6]) (by kernel_rfl) (by simp) ?_
            refine AllReadyH.cons (o := ⟨_, _, _, _, _, _⟩) rfl (fun KK hK => ?g2_6) AllReadyH.nil
            case g2_6 =>
              go_simp
              refine (pick_any p a bs c zb _ _ Q3.cur (by omega)).mono ?_
              rintro r v3 ⟨d, rfl, hd, k3⟩
              obtain ⟨zc, hzc, Q4⟩ := Q3.drew hp k3
              clear Q3 k3 hd
              refine hK.out _ _ trivial (fun hHn => ?_)
              clear hK KK hHn
              try simp only [Act.put, List.setIfInBounds_toArray, List.set_cons_zero, List.set_cons_succ]
              refine wpAnyH_take (i := 7) (oi := ⟨_, _, _, _, _, _⟩) (v := ?vc27) rfl (by kernel_rfl) (by kernel_rfl) (by kernel_rfl) (fun _ _ _ h => h) (Or.inl ⟨by rfl, ?yc27⟩) trivial ?rc27
              case yc27 => intro w hSw; clear hSw; go_simp; try with_reducible rfl
              try simp only [Act.put, List.setIfInBounds_toArray, List.set_cons_zero, List.set_cons_succ]
              refine wpAnyH_take (i := 8) (oi := ⟨_, _, _, _, _, _⟩) (v := ?ve28) rfl (by kernel_rfl) (by kernel_rfl) (by kernel_rfl) (fun _ _ _ h => h) (Or.inl ⟨by rfl, ?ye28⟩) trivial ?re28
              case ye28 => intro w hSw; clear hSw; go_simp; try with_reducible rfl
              try simp only [Act.put, List.setIfInBounds_toArray, List.set_cons_zero, List.set_cons_succ]
              refine wpAnyH_take (i := 9) (oi := ⟨_, _, _, _, _, _⟩) (v := ?ve29) rfl (by kernel_rfl) (by kernel_rfl) (by kernel_rfl) (fun _ _ _ h => h) (Or.inl ⟨by rfl, ?ye29⟩) trivial ?re29
              case ye29 => intro w hSw; clear hSw; go_simp; try with_reducible rfl
              try simp only [Act.put, List.setIfInBounds_toArray, List.set_cons_zero, List.set_cons_succ]
              refine wpAnyH_take (i := 10) (oi := ⟨_, _, _, _, _, _⟩) (v := ?ve210) rfl (by kernel_rfl) (by kernel_rfl) (by kernel_rfl) (fun _ _ _ h => h) (Or.inl ⟨by rfl, ?ye210⟩) trivial ?re210
              case ye210 => intro w hSw; clear hSw; go_simp; try with_reducible rfl
              try simp only [Act.put, List.setIfInBounds_toArray, List.set_cons_zero, List.set_cons_succ]
              refine wpAnyH_ready (rs := [11]) (by kernel_rfl) (by simp) ?_
              refine AllReadyH.cons (o := ⟨_, _, _, _, _, _⟩) rfl (fun KK hK => ?_) AllReadyH.nil
              obtain ⟨w0, e0, r0⟩ := Q4.rd
              obtain ⟨g9, q9, ea, hg, hcl, hfz, hBt⟩ := bats_off r0 hk2
              simp only [Option.some.injEq, Addr.mk.injEq, and_true] at ea
              subst ea
              have HBt := (show Hid _ from hBt)
              have HQ := (show Hid _ from Q4)
              have HG : Hid (w.heap.size ≤ g) := by show _ ≤ _; omega
              clear Q4 hBt r0
              go_simp
              refine hK.out _ _ trivial (fun hHn => ?_)
              clear hK KK hHn
              try simp only [Act.put, List.setIfInBounds_toArray, List.set_cons_zero, List.set_cons_succ]
              refine wpAnyH_done (by kernel_rfl) (NoPanic.normal ?_) _
              clear hcl hfz
              go_wp2
              go_ret
              exact ⟨some ⟨g, 0, none⟩, cv, _, by first | (rw [List.length_set, qsB_len]; done) | (rw [List.length_set, qsB_len]; rfl), HBt.out _, by rw [List.length_set, qsB_len]; exact hcv, by rw [List.length_set, qsB_len]; omega, zc, by omega, curB_set HQ.out.cur (by have := HG.out; omega), farB_set HQ.out.far hp HG.out⟩
          case g1_6 =>
            go_simp
            refine (pick_any p a bs c zb _ _ Q3.cur (by omega)).mono ?_
            rintro r v3 ⟨d, rfl, hd, k3⟩
            obtain ⟨zc, hzc, Q4⟩ := Q3.drew hp k3
            clear Q3 k3 hd
            refine hK.out _ _ trivial (fun hHn => ?_)
            clear hK KK hHn
            try simp only [Act.put, List.setIfInBounds_toArray, List.set_cons_zero, List.set_cons_succ]
            refine wpAnyH_take (i := 7) (oi := ⟨_, _, _, _, _, _⟩) (v := ?vc17) rfl (by kernel_rfl) (by kernel_rfl) (by kernel_rfl) (fun _ _ _ h => h) (Or.inl ⟨by rfl, ?yc17⟩) trivial ?rc17
            case yc17 => intro w hSw; clear hSw; go_simp; try with_reducible rfl
            try simp only [Act.put, List.setIfInBounds_toArray, List.set_cons_zero, List.set_cons_succ]
            refine wpAnyH_ready (rs := [4]) (by kernel_rfl) (by simp) ?_
            refine AllReadyH.cons (o := ⟨_, _, _, _, _, _⟩) rfl (fun KK hK => ?g3_4) AllReadyH.nil
            case g3_4 =>
              obtain ⟨w0, e0, r0⟩ := Q4.rd
              obtain ⟨g9, q9, ea, hg, hcl, -, -⟩ := bats_off r0 hk2
              simp only [Option.some.injEq, Addr.mk.injEq, and_true] at ea
              subst ea
              obtain ⟨o9, ho9⟩ : ∃ o, q9.b.off = o := ⟨_, rfl⟩
              rw [ho9] at hcl
              clear r0 ho9
              go_simp
              clear hcl
              refine hK.out _ _ trivial (fun hHn => ?_)
              clear hK KK hHn
              try simp only [Act.put, List.setIfInBounds_toArray, List.set_cons_zero, List.set_cons_succ]
              refine wpAnyH_take (i := 8) (oi := ⟨_, _, _, _, _, _⟩) (v := ?ve38) rfl (by kernel_rfl) (by kernel_rfl) (by kernel_rfl) (fun _ _ _ h => h) (Or.inl ⟨by rfl, ?ye38⟩) trivial ?re38
              case ye38 => intro w hSw; clear hSw; go_simp; try with_reducible rfl
              try simp only [Act.put, List.setIfInBounds_toArray, List.set_cons_zero, List.set_cons_succ]
              refine wpAnyH_take (i := 9) (oi := ⟨_, _, _, _, _, _⟩) (v := ?ve39) rfl (by kernel_rfl) (by kernel_rfl) (by kernel_rfl) (fun _ _ _ h => h) (Or.inl ⟨by rfl, ?ye39⟩) trivial ?re39
              case ye39 => intro w hSw; clear hSw; go_simp; try with_reducible rfl
              try simp only [Act.put, List.setIfInBounds_toArray, List.set_cons_zero, List.set_cons_succ]
              refine wpAnyH_take (i := 10) (oi := ⟨_, _, _, _, _, _⟩) (v := ?ve310) rfl (by kernel_rfl) (by kernel_rfl) (by kernel_rfl) (fun _ _ _ h => h) (Or.inl ⟨by rfl, ?ye310⟩) trivial ?re310
              case ye310 => intro w hSw; clear hSw; go_simp; try with_reducible rfl
              try simp only [Act.put, List.setIfInBounds_toArray, List.set_cons_zero, List.set_cons_succ]
              refine wpAnyH_ready (rs := [11]) (by kernel_rfl) (by simp) ?_
              refine AllReadyH.cons (o := ⟨_, _, _, _, _, _⟩) rfl (fun KK hK => ?_) AllReadyH.nil
              obtain ⟨w0, e0, r0⟩ := Q4.rd
              obtain ⟨g9, q9, ea, hg, hcl, hfz, hBt⟩ := bats_off r0 hk2
              simp only [Option.some.injEq, Addr.mk.injEq, and_true] at ea
              subst ea
              have HBt := (show Hid _ from hBt)
              have HQ := (show Hid _ from Q4)
              have HG : Hid (w.heap.size ≤ g) := by show _ ≤ _; omega
              clear Q4 hBt r0
              go_simp
              refine hK.out _ _ trivial (fun hHn => ?_)
              clear hK KK hHn
              try simp only [Act.put, List.setIfInBounds_toArray, List.set_cons_zero, List.set_cons_succ]
              refine wpAnyH_done (by kernel_rfl) (NoPanic.normal ?_) _
              clear hcl hfz
              go_wp2
              go_ret
              exact ⟨some ⟨g, 0, none⟩, cv, _, by first | (rw [List.length_set, qsB_len]; done) | (rw [List.length_set, qsB_len]; rfl), HBt.out _, by rw [List.length_set, qsB_len]; exact hcv, by rw [List.length_set, qsB_len]; omega, zc, by omega, curB_set HQ.out.cur (by have := HG.out; omega), farB_set HQ.out.far hp HG.out⟩
      · obtain rfl : qs = [] := List.eq_nil_of_length_eq_zero (by omega)
        have HQ := (show Hid _ from Q0)
        clear Q0
        go_wp2
        go_ret
        obtain ⟨w0, e0, r0⟩ := HQ.out.rd
        exact ⟨av, cv, [], rfl, rd_bats r0, by simp, by simp, zz, by omega, HQ.out.cur, HQ.out.far⟩

end Go.Proofs.YtlinincmlilbjaaDoor
