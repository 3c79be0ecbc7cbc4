/-
  As QLQs, with the room that the lists have.
-/
import Derived.Test.YtdibddkhjefmlaaDoorQLQs
import Derived.Test.YtdibddkhjefmlaaDoorQOutC
namespace Go.Proofs.YtdibddkhjefmlaaDoor
open Go.RowKit

set_option maxRecDepth 100000 in
set_option maxHeartbeats 8000000 in
theorem specLQC_any (zs : List Int) (need : Int) (a : Option Addr) (c : Nat) (w : World) (hs : Ints w a zs) (hl : zs.length ≤ maxLen) :
    Calls Tryd.prog 51 #[votV zs need a c] w fun r w' => LAnsC w (lqL zs need) (goodV zs need) r w' := by
  obtain ⟨i0, hi, hz0, hz1, hz2⟩ := info_parts Tryd.infoInts
  have hb : Below w.heap.size w (w.alloc (.cells #[.slice a zs.length c, .int .i64 need] 77)) := (Below.refl _ _).alloc (Nat.le_refl _) _
  go_enter Tryd.func51, Tryd.ntmps51
  go_wp2_with fail
  refine (specGoodV_any _ _ _ _ _ (hs.below hb) hl).mono ?_
  rintro r w1 ⟨hr, hB1⟩
  have BB := hb.trans (hB1.mono (by simp))
  have hs1 := hs.below BB
  have cV : w1.cell? ⟨w.heap.size, 0, none⟩ = some (.slice a zs.length c) := (hB1.cell (p := ⟨w.heap.size, 0, none⟩) (by simp)).trans (by simp [go_sem])
  have cN : w1.cell? ⟨w.heap.size, 1, none⟩ = some (.int .i64 need) := (hB1.cell (p := ⟨w.heap.size, 1, none⟩) (by simp)).trans (by simp [go_sem])
  clear hs hB1 hb
  generalize hg : goodV zs need = g at hr
  have HG : Hid (goodV zs need = g) := hg
  have HL : Hid (lqL zs need = if g then lstTo (lqEn zs need) (2 ^ zs.length) else []) := by show _ = _; unfold lqL; rw [hg]
  clear hg
  subst hr
  cases g with
  | false =>
    go_wp2
    go_ret2
    rw [HG.out]
    exact lansC_of (qs := []) ⟨World.ownsRow_nil _ _ _ _, QIn.nil _ _, BB⟩ (by rw [HL.out]; rfl)
  | true =>
  have hgv := goodV_t.1 HG.out
  have hok := hgv.1
  have hl7 := hgv.2.1.2
  have hen0 := en_zero (zs := zs) hgv.2.2.1
  have EN0 : Hid (lqEn zs need 0 = false) := hen0
  clear hgv hen0
  obtain ⟨P2, hP2⟩ : ∃ p, p = 2 ^ zs.length := ⟨_, rfl⟩
  have hP128 : P2 ≤ 128 := by rw [hP2]; exact pow_small _ hl7
  have hP1 : 1 ≤ P2 := by rw [hP2]; exact Nat.one_le_two_pow
  have hwr : IntKind.i64.wrap ((2 : Int) ^ zs.length) = (P2 : Int) := by
    rw [show (2 : Int) ^ zs.length = (P2 : Int) by rw [hP2]; simp]
    rw [IntKind.wrap_i64]; omega
  have HP2 : Hid (P2 = 2 ^ zs.length) := hP2
  clear hP2
  generalize hE : lqEn zs need = en at *
  have HE : Hid (lqEn zs need = en) := hE
  clear hE
  go_wp2
  go_loopw [4, 5] (fun v i wr => ∃ k : Nat, ∃ qs : List QI, 1 ≤ k ∧ k ≤ P2 ∧ i = .int .i64 (k : Int) ∧ qs.map QI.zs = lstTo en k ∧ LSt w1 wr v qs) (fun _ i _ => P2 - (intOf i).toNat)
  case atStart => exact ⟨1, [], Nat.le_refl _, hP1, rfl, by simp [lstTo, lstB, EN0.out], lst_start w1⟩
  case round =>
    rename World => w2
    obtain ⟨n, qs, hn1, hn, rfl, hqs, hst⟩ := hrel
    have hql : qs.length ≤ 128 := by
      have h1 := congrArg List.length hqs
      have h2 := lstTo_len en n
      rw [List.length_map] at h1
      omega
    have HQS : Hid (qs.map QI.zs = lstTo en n) := hqs
    clear hqs
    have dV := (hst.bel.cell (p := ⟨w.heap.size, 0, none⟩) (lt_of_cell cV)).trans cV
    have dN := (hst.bel.cell (p := ⟨w.heap.size, 1, none⟩) (lt_of_cell cN)).trans cN
    by_cases hlt : n < P2
    · have HK2 : Hid (n < 2 ^ zs.length) := by show n < 2 ^ zs.length; rw [← HP2.out]; exact hlt
      have hn3 : (n : Int) < (P2 : Int) := by omega
      have hn7 : n < 128 := by omega
      have hmem : ∀ m ∈ mem7 n, m < zs.length := fun m hm => mem_small HK2.out hm
      obtain ⟨av, cv, rfl, -, -⟩ := ownsZ_cap hst.own
      go_wp2_with fail
      refine (l6List_any n hn7 _).mono ?_
      intro r w3 hz3
      obtain ⟨a3, c3, rfl, hc3, hc3m, hI3, hR3, hB3⟩ := hz3.ints
      have B13 : Below w1.heap.size w1 w3 := hst.bel.trans (hB3.mono hst.bel.size)
      have kk : w3.cell? ⟨w.heap.size, 0, none⟩ = some (.slice a zs.length c) ∧ w3.cell? ⟨w.heap.size, 1, none⟩ = some (.int .i64 need) := ⟨(hB3.cell (p := ⟨w.heap.size, 0, none⟩) (lt_of_cell dV)).trans dV, (hB3.cell (p := ⟨w.heap.size, 1, none⟩) (lt_of_cell dN)).trans dN⟩
      have hs3 := hs1.below B13
      have hml := mi_len n
      have hin := mi_in hmem
      clear hz3 dV dN
      go_wp2_with fail
      go_region_held3 (fun w' => w'.cell? ⟨w.heap.size, 0, none⟩ = some (.slice a zs.length c) ∧ w'.cell? ⟨w.heap.size, 1, none⟩ = some (.int .i64 need))
        (first | exact kk | go_keep)
        (first
          | (go_at_call 62; refine (l6Sum_any _ _ _ _ _ _ _ _ (hs3.below (Below.refl _ _).drew) (hI3.below (Below.refl _ _).drew) hok (by omega) hin).mono ?_; rintro r w4 ⟨rfl, hB4⟩; have kk : w4.cell? ⟨w.heap.size, 0, none⟩ = some (.slice a zs.length c) ∧ w4.cell? ⟨w.heap.size, 1, none⟩ = some (.int .i64 need) := ⟨(hB4.cell (p := ⟨w.heap.size, 0, none⟩) (lt_of_cell kk.1)).trans kk.1, (hB4.cell (p := ⟨w.heap.size, 1, none⟩) (lt_of_cell kk.2)).trans kk.2⟩))
      have B34 : Below w3.heap.size w3 w4 := Below.step_dr (Below.refl _ _) hB4
      have kk4 : w4.cell? ⟨w.heap.size, 0, none⟩ = some (.slice a zs.length c) ∧ w4.cell? ⟨w.heap.size, 1, none⟩ = some (.int .i64 need) := by assumption
      have HVI : Hid (∀ u, Below w4.heap.size w4 u → Ints u a zs) := fun u hu => (hs3.below B34).below hu
      have HLI : Hid (∀ u, Below w4.heap.size w4 u → Ints u a3 (mi n)) := fun u hu => (hI3.below B34).below hu
      have HB3 : Hid (Below w2.heap.size w2 w3) := hB3
      have HI3 : Hid (Ints w3 a3 (mi n)) := hI3
      have HR3 : Hid (RowI w3 w2.heap.size a3 (mi n).length) := hR3
      have HST : Hid (LSt w1 w2 (.slice av qs.length cv) qs) := hst
      have hbn : decide (need ≤ sumW zs (mi n)) = lsTo en n 0 := by rw [lsTo_zero, ← HE.out]; rfl
      clear hs3 hB4 hB3 B13 hI3 hR3 hst hin
      go_wp2
      go_loopw [7, 31] (fun f i wr => ∃ j : Nat, j ≤ (mi n).length ∧ i = .int .i64 (j : Int) ∧ f = .bool (lsTo en n j) ∧ Below w4.heap.size w4 wr) (fun _ i _ => (mi n).length - (intOf i).toNat)
      case atStart => exact ⟨0, Nat.zero_le _, rfl, by first | rfl | (rw [← hbn]) | (simp [hbn]), Below.refl _ _⟩
      case round =>
        obtain ⟨j, hj, rfl, rfl, hBi⟩ := hrel
        clear hbn
        by_cases hjl : j < (mi n).length
        · have EW : Hid ((mi n).eraseIdx j = mi (wo n (2 ^ (mem7 n).getD j 0))) := mi_erase hn7 hjl
          have hin6 : inV zs (mi (wo n (2 ^ (mem7 n).getD j 0))) := mi_in fun m hm => hmem m (wo_mem hm)
          have HS : Hid (lsTo en n (j + 1) = (lsTo en n j && !en (wo n (2 ^ (mem7 n).getD j 0)))) := lsTo_succ en n j
          have kk : wr.cell? ⟨w.heap.size, 0, none⟩ = some (.slice a zs.length c) ∧ wr.cell? ⟨w.heap.size, 1, none⟩ = some (.int .i64 need) := ⟨(hBi.cell (p := ⟨w.heap.size, 0, none⟩) (lt_of_cell kk4.1)).trans kk4.1, (hBi.cell (p := ⟨w.heap.size, 1, none⟩) (lt_of_cell kk4.2)).trans kk4.2⟩
          have HD : Hid ((!en (wo n (2 ^ (mem7 n).getD j 0))) = decide (sumW zs (mi (wo n (2 ^ (mem7 n).getD j 0))) < need)) := by
            show _ = _
            rw [← HE.out]
            unfold lqEn
            rw [Bool.eq_iff_iff]
            simp
          generalize hgl : lsTo en n j = gl at HS ⊢
          clear hgl
          cases gl with
          | false =>
            go_wp2_with fail
            go_quiet (fail)
            go_wp2
            go_roundw
            case rel => exact ⟨j + 1, by omega, by go_num, by rw [HS.out]; rfl, below_drewN hBi _⟩
            case measure => simp [intOf]; omega
          | true =>
            go_wp2_with fail
            refine wp_region_noPanic ?_
            refine wp_region_held_drew (S := fun w' => w'.cell? ⟨w.heap.size, 0, none⟩ = some (.slice a zs.length c) ∧ w'.cell? ⟨w.heap.size, 1, none⟩ = some (.int .i64 need)) (by kernel_rfl) kk (fun hH => ?_)
            refine wpAnyH_take (i := 0) (oi := ⟨_, _, _, _, _, _⟩) (v := ?vt0) rfl (by kernel_rfl) (by kernel_rfl) (by kernel_rfl) (fun _ _ _ h => h) (Or.inl ⟨by rfl, ?yt0⟩) (by assumption) ?rt0
            case yt0 => intro w hSw; (try dsimp only at hSw); go_simp; try with_reducible rfl
            try simp only [Act.put, List.setIfInBounds_toArray, List.set_cons_zero, List.set_cons_succ]
            refine wpAnyH_take (i := 1) (oi := ⟨_, _, _, _, _, _⟩) (v := ?vt1) rfl (by kernel_rfl) (by kernel_rfl) (by kernel_rfl) (fun _ _ _ h => h) (Or.inl ⟨by rfl, ?yt1⟩) (by assumption) ?rt1
            case yt1 => intro w hSw; (try dsimp only at hSw); go_simp; try with_reducible rfl
            try simp only [Act.put, List.setIfInBounds_toArray, List.set_cons_zero, List.set_cons_succ]
            refine wpAnyH_take (i := 2) (oi := ⟨_, _, _, _, _, _⟩) (v := ?vt2) rfl (by kernel_rfl) (by kernel_rfl) (by kernel_rfl) (fun _ _ _ h => h) (Or.inl ⟨by rfl, ?yt2⟩) (by assumption) ?rt2
            case yt2 => intro w hSw; (try dsimp only at hSw); go_simp; try with_reducible rfl
            try simp only [Act.put, List.setIfInBounds_toArray, List.set_cons_zero, List.set_cons_succ]
            refine wpAnyH_take (i := 3) (oi := ⟨_, _, _, _, _, _⟩) (v := ?vt3) rfl (by kernel_rfl) (by kernel_rfl) (by kernel_rfl) (fun _ _ _ h => h) (Or.inl ⟨by rfl, ?yt3⟩) (by assumption) ?rt3
            case yt3 => intro w hSw; (try dsimp only at hSw); go_simp; try with_reducible rfl
            try simp only [Act.put, List.setIfInBounds_toArray, List.set_cons_zero, List.set_cons_succ]
            refine wpAnyH_take (i := 4) (oi := ⟨_, _, _, _, _, _⟩) (v := ?vt4) rfl (by kernel_rfl) (by kernel_rfl) (by kernel_rfl) (fun _ _ _ h => h) (Or.inl ⟨by rfl, ?yt4⟩) (by assumption) ?rt4
            case yt4 => intro w hSw; (try dsimp only at hSw); go_simp; try with_reducible rfl
            try simp only [Act.put, List.setIfInBounds_toArray, List.set_cons_zero, List.set_cons_succ]
            refine wpAnyH_take (i := 7) (oi := ⟨_, _, _, _, _, _⟩) (v := ?vt7) rfl (by kernel_rfl) (by kernel_rfl) (by kernel_rfl) (fun _ _ _ h => h) (Or.inl ⟨by rfl, ?yt7⟩) (by assumption) ?rt7
            case yt7 => intro w hSw; (try dsimp only at hSw); go_simp; try with_reducible rfl
            try simp only [Act.put, List.setIfInBounds_toArray, List.set_cons_zero, List.set_cons_succ]
            refine wpAnyH_take (i := 8) (oi := ⟨_, _, _, _, _, _⟩) (v := ?vt8) rfl (by kernel_rfl) (by kernel_rfl) (by kernel_rfl) (fun _ _ _ h => h) (Or.inl ⟨by rfl, ?yt8⟩) (by assumption) ?rt8
            case yt8 => intro w hSw; (try dsimp only at hSw); go_simp; try with_reducible rfl
            try simp only [Act.put, List.setIfInBounds_toArray, List.set_cons_zero, List.set_cons_succ]
            refine wpAnyH_ready (rs := [5]) (by kernel_rfl) (by simp) ?_
            refine AllReadyH.cons (o := ⟨_, _, _, _, _, _⟩) rfl (fun KK hK => ?_) AllReadyH.nil
            go_simp
            refine (l6Without_any _ _ j _ _ (HLI.out _ ?_) hjl (by omega) hc3 hc3m).mono ?_
            · exact hBi.drew
            intro r w6 hz6
            rw [EW.out] at hz6
            obtain ⟨a6, c6, rfl, -, -, hI6, -, hB6⟩ := hz6.ints
            clear hz6
            have kk' : w6.cell? ⟨w.heap.size, 0, none⟩ = some (.slice a zs.length c) ∧ w6.cell? ⟨w.heap.size, 1, none⟩ = some (.int .i64 need) := ⟨(hB6.cell (p := ⟨w.heap.size, 0, none⟩) (lt_of_cell kk.1)).trans kk.1, (hB6.cell (p := ⟨w.heap.size, 1, none⟩) (lt_of_cell kk.2)).trans kk.2⟩
            go_wp2_with fail
            refine hK.out _ _ kk' (fun hH5 => ?_)
            clear hK KK hH
            try simp only [Act.put, List.setIfInBounds_toArray, List.set_cons_zero, List.set_cons_succ]
            refine wpAnyH_ready (rs := [6]) (by kernel_rfl) (by simp) ?_
            refine AllReadyH.cons (o := ⟨_, _, _, _, _, _⟩) rfl (fun KK hK => ?_) AllReadyH.nil
            go_simp
            refine (l6Sum_any _ _ _ _ _ _ _ _ ((HVI.out _ (Below.step_dr hBi hB6))) hI6 hok (by have := mi_len (wo n (2 ^ (mem7 n).getD j 0)); omega) hin6).mono ?_
            rintro r w7 ⟨rfl, hB7⟩
            have kk'' : w7.cell? ⟨w.heap.size, 0, none⟩ = some (.slice a zs.length c) ∧ w7.cell? ⟨w.heap.size, 1, none⟩ = some (.int .i64 need) := ⟨(hB7.cell (p := ⟨w.heap.size, 0, none⟩) (lt_of_cell kk'.1)).trans kk'.1, (hB7.cell (p := ⟨w.heap.size, 1, none⟩) (lt_of_cell kk'.2)).trans kk'.2⟩
            go_wp2_with fail
            refine hK.out _ _ kk'' (fun hH6 => ?_)
            clear hK KK hH5
            try simp only [Act.put, List.setIfInBounds_toArray, List.set_cons_zero, List.set_cons_succ]
            refine wpAnyH_take (i := 9) (oi := ⟨_, _, _, _, _, _⟩) (v := ?vt9) rfl (by kernel_rfl) (by kernel_rfl) (by kernel_rfl) (fun _ _ _ h => h) (Or.inl ⟨by rfl, ?yt9⟩) (by assumption) ?rt9
            case yt9 => intro w hSw; (try dsimp only at hSw); go_simp; try with_reducible rfl
            try simp only [Act.put, List.setIfInBounds_toArray, List.set_cons_zero, List.set_cons_succ]
            refine wpAnyH_take (i := 10) (oi := ⟨_, _, _, _, _, _⟩) (v := ?vt10) rfl (by kernel_rfl) (by kernel_rfl) (by kernel_rfl) (fun _ _ _ h => h) (Or.inl ⟨by rfl, ?yt10⟩) (by assumption) ?rt10
            case yt10 => intro w hSw; (try dsimp only at hSw); go_simp; try with_reducible rfl
            try simp only [Act.put, List.setIfInBounds_toArray, List.set_cons_zero, List.set_cons_succ]
            refine wpAnyH_take (i := 11) (oi := ⟨_, _, _, _, _, _⟩) (v := ?vt11) rfl (by kernel_rfl) (by kernel_rfl) (by kernel_rfl) (fun _ _ _ h => h) (Or.inl ⟨by rfl, ?yt11⟩) (by assumption) ?rt11
            case yt11 => intro w hSw; (try dsimp only at hSw); go_simp; try with_reducible rfl
            try simp only [Act.put, List.setIfInBounds_toArray, List.set_cons_zero, List.set_cons_succ]
            refine wpAnyH_done (by kernel_rfl) (NoPanic.normal ?_) _
            go_wp2
            go_roundw
            case rel => exact ⟨j + 1, by omega, by go_num, by rw [HS.out, HD.out]; rfl, (Below.step_dr hBi hB6).trans (hB7.mono (Below.step_dr hBi hB6).size)⟩
            case measure => simp [intOf]; omega
        · obtain rfl : j = (mi n).length := by omega
          have Br : Below w2.heap.size w2 wr := (HB3.out.trans (B34.mono HB3.out.size)).trans (hBi.mono (HB3.out.trans (B34.mono HB3.out.size)).size)
          have B3i : Below w3.heap.size w3 wr := B34.trans (hBi.mono B34.size)
          have HF : Hid (lsTo en n (mi n).length = lstB en n) := by show _ = _; rw [show (mi n).length = (mem7 n).length by simp [mi]]; exact lsTo_all en n
          rw [HF.out]
          generalize hgl : lstB en n = gl
          have HGL : Hid (lstB en n = gl) := hgl
          clear hgl
          cases gl with
          | false =>
            have HS2 : Hid (LSt w1 wr (.slice av qs.length cv) qs) := lst_below HST.out Br
            go_wp2
            go_roundw
            case rel => exact ⟨n + 1, qs, by omega, by omega, by go_num, by rw [lstTo_succ, HGL.out, HQS.out]; simp, HS2.out⟩
            case measure => simp [intOf]; omega
          | true =>
            have hsti := lst_below HST.out Br
            have hali : ∀ o, Below wr.heap.size wr (wr.alloc o) := fun o => (Below.refl _ _).alloc (Nat.le_refl _) o
            have hst5 := fun o => lst_below hsti (hali o)
            have hsz := hsti.bel.size
            go_wp2_with (at_builtin; refine wpList_append_lies _ rfl _ _ 23 rfl w1.heap.size 31 i0 _ 1 24 Tryd.underlying23 hi hz0 hz1 hz2 rfl (by decide) (.slice av qs.length cv) qs.length (qs.map QI.val) rfl (hst5 _).own ⟨wr.heap.size, 0, none⟩ 1 1 [.slice a3 (mi n).length c3] rfl rfl ?c1 ?c2 (by omega) ?c3 ?c4 ?c5 (wr.heap.size + 1) ?c6 ?_)
            case c1 => exact World.news_of_block (cs := #[.slice a3 (mi n).length c3]) (t := 31) (fr := (0, 0)) (by first | exact (heap_alloc_new wr _) | simpa using (heap_alloc_new wr _))
            case c2 => simp [Value.oneCell']
            case c3 => unfold maxLen; omega
            case c4 => omega
            case c5 => simp; omega
            case c6 => simp
            intro g6 cap6 w6 hown6 hgrow6 hat6 _
            have hst6 := lst_step (q := ⟨mi n, a3, c3⟩) HST.out (Br.trans ((hali _).mono Br.size)) ((HI3.out.below B3i).below (hali _)) ((HR3.out.below B3i).below (hali _)) hgrow6 hown6
            have HS6 : Hid (LSt w1 w6 (.slice (some ⟨g6, 0, none⟩) (qs.length + 1) cap6) (qs ++ [⟨mi n, a3, c3⟩])) := hst6
            clear hst6 hown6 hgrow6 hat6 hst5 hsti
            go_wp2_with fail
            go_roundw
            case rel => exact ⟨n + 1, qs ++ [⟨mi n, a3, c3⟩], by omega, by omega, by go_num, by rw [lstTo_succ, HGL.out, List.map_append, HQS.out]; simp, HS6.out⟩
            case measure => simp [intOf]; omega
    · obtain rfl : n = P2 := by omega
      have hn3 : ¬ ((n : Int) < (n : Int)) := by omega
      obtain ⟨av, cv, rfl, -, -⟩ := ownsZ_cap hst.own
      have HSB : Hid (LSt w w2 (.slice av qs.length cv) qs) := lst_base hst BB
      go_wp2
      go_ret2
      rw [HG.out]
      exact lansC_of HSB.out (by rw [HQS.out, HL.out, HP2.out]; simp)

end Go.Proofs.YtdibddkhjefmlaaDoor
