/-
  All batches of a store, the program's side: the contracts of impl.AllBatches and impl.GoodStore.
-/
import Derived.Test.YtomigekigcklfaaDoorStAll
namespace Go.Proofs.YtomigekigcklfaaDoor
open Go.RowKit

/-- What AllBatches answers. -/
def AbAns (w : World) (gs : List Sg) (x : Int) (r : Ending) (w' : World) : Prop :=
  ∃ qs a c, r = .returned (.tuple #[.slice a qs.length c, .bool (stG gs x)]) ∧ qsB qs = (if stG gs x = true then stAll gs else []) ∧ RdSt w w' (.slice a qs.length c) qs

theorem AbAns.no {w w' : World} {gs : List Sg} {x : Int} (h : stG gs x = false) (hb : Below w.heap.size w w') : AbAns w gs x (.returned (.tuple #[.slice none 0 0, .bool false])) w' :=
  ⟨[], none, 0, by rw [h]; rfl, by rw [h]; rfl, rd_nil hb⟩

theorem AbAns.yes {w w' : World} {gs : List Sg} {x : Int} {qs : List Q} {a : Option Addr} {c : Nat} (h : stG gs x = true) (hq : qsB qs = stAll gs) (hst : RdSt w w' (.slice a qs.length c) qs) : AbAns w gs x (.returned (.tuple #[.slice a qs.length c, .bool true])) w' :=
  ⟨qs, a, c, by rw [h], by rw [if_pos h]; exact hq, hst⟩

theorem Sg.small {g : Sg} (h : g.fine = true) : g.bytes.size ≤ 600 := by
  apply Decidable.byContradiction
  intro h6
  rw [Sg.out h6] at h
  cases h

theorem Sg.short {g : Sg} (h : g.fine = true) : g.l.length ≤ 1000 := by
  have h1 := Sg.small h
  have h2 := readR_lenS g.bytes.data.toList (g.bytes.data.toList.length + 1) none 0 (Nat.zero_le _)
  rw [size_len] at h2
  unfold Sg.l readL
  rw [size_len]
  omega

theorem rs_drop {gs : List Sg} {k : Nat} {g : Sg} (h : gs[k]? = some g) : rsOf (gs.drop k) = g.rs :: rsOf (gs.drop (k + 1)) := by
  rw [dropSg_cons h]; rfl

theorem imOk_eq (n k : Nat) (g : Sg) (nx : Int) : imOk n k g.rs nx = (g.fine && (decide (g.base = nx) && !(g.l.isEmpty && decide (k + 1 < n)))) := by
  unfold imOk Sg.fine
  have e1 : g.rs.base = g.base := rfl
  have e2 : g.rs.l = g.l := rfl
  rw [e1, e2, Bool.and_assoc]

theorem imGood_no {n : Nat} {x : Int} {rs : List Rs} {base : Int} (h : imF n 0 rs base [] = none) : imGood n x rs base = false := by
  unfold imGood; rw [h]

theorem imGood_eq {n : Nat} {x nx : Int} {rs : List Rs} {base : Int} {all : List Bt} (h : imF n 0 rs base [] = some (nx, all)) : imGood n x rs base = (decide (nx = x) && goodLog all) := by
  unfold imGood; rw [h]

theorem stG_eq {gs : List Sg} {x : Int} {g0 : Sg} (h : gs[0]? = some g0) (h8 : gs.length ≤ 8) (hx : inB x 0 100000 = true) : stG gs x = imGood gs.length x (rsOf gs) g0.base := by
  cases gs with
  | nil => simp at h
  | cons g r =>
    simp at h
    subst h
    simp only [stG]
    rw [decide_eq_true h8, hx]
    simp

/-- What was read still reads so where its own blocks stay. -/
theorem rd_bats_in {w wr u : World} {a : Option Addr} {c : Nat} {qs : List Q} (h : RdSt w wr (.slice a qs.length c) qs) (hk : ∀ k, w.heap.size ≤ k → k < wr.heap.size → u.heap[k]? = wr.heap[k]?) : Bats u a (qsB qs) := fun i b hi => by
  have hlt := (List.getElem?_eq_some_iff.1 hi).1
  rw [qsB_len] at hlt
  obtain ⟨q, hq⟩ : ∃ q, qs[i]? = some q := ⟨_, List.getElem?_eq_getElem hlt⟩
  obtain rfl : q.b = b := by simpa [qsB, hq] using hi
  have hown := ownsR_of_block (w' := u) h.own (fun k e => hk k (h.own.lt k e).1 (h.own.lt k e).2)
  obtain ⟨g, cap, f, hv, hg, hn, hR, hx⟩ := row_of_ownsB hown (by omega)
  simp only [Value.slice.injEq] at hv
  obtain ⟨rfl, -, rfl⟩ := hv
  have hm := List.mem_of_getElem? hq
  have hrec := ownsR_of_block (w' := u) (h.recs q hm).1 (fun k e => hk k ((h.recs q hm).1.lt k e).1 ((h.recs q hm).1.lt k e).2)
  have cell : ∀ j v, j < 5 → (qCells q)[j]? = some v → u.cell? ⟨g, 0 + i * 5 + j, none⟩ = some v := fun j v hj hv => by
    have e := hx (i * 5 + j) (by omega)
    rw [qsCells_get qs i q hq j hj, hv] at e
    rw [Nat.zero_add, hR.cell (by omega)]
    exact e.symm
  refine ⟨g, 0, rfl, q.a, q.c, cell 0 _ (by omega) rfl, cell 1 _ (by omega) rfl, cell 2 _ (by omega) rfl, cell 3 _ (by omega) rfl, cell 4 _ (by omega) rfl, strs_of_owns hrec (h.recs q hm).2.1, ?_⟩
  have := (h.recs q hm).2.2
  unfold maxLen; omega

set_option maxRecDepth 100000 in
set_option maxHeartbeats 4000000 in
theorem implAll_any (gs : List Sg) (a : Option Addr) (c : Nat) (x : Int) (w : World) (hs : Sgs w a gs) (hl : gs.length ≤ maxLen) (hTab : TabAt w) :
    Calls Tryd.prog 53 #[.agg #[.slice a gs.length c, .int .i64 x]] w fun r w' => AbAns w gs x r w' := by
  have hw0 : 0 < w.heap.size := lt_of_cell (hTab 0 (by omega))
  have hb0 : ∀ o, Below w.heap.size w (w.alloc o) := fun o => (Below.refl _ _).alloc (Nat.le_refl _) o
  have ha : ∀ (u : World) o, Below u.heap.size u (u.alloc o) := fun u o => (Below.refl _ _).alloc (Nat.le_refl _) o
  unfold maxLen at hl
  obtain ⟨i0, hi, hz0, hz1, hz2⟩ := info_parts Tryd.infoBatch
  by_cases h1 : gs.length < 1
  · have HF : Hid (stG gs x = false) := by
      obtain rfl : gs = [] := List.eq_nil_of_length_eq_zero (by omega)
      rfl
    clear hs
    go_enter Tryd.func53, Tryd.ntmps53
    go_wp2
    go_ret2
    exact AbAns.no HF.out (hb0 _)
  by_cases h8 : 8 < gs.length
  · have HF : Hid (stG gs x = false) := by
      show _ = _
      cases gs with
      | nil => rfl
      | cons g r => simp only [stG]; rw [decide_eq_false (by omega)]; rfl
    clear hs
    go_enter Tryd.func53, Tryd.ntmps53
    go_wp2
    go_ret2
    exact AbAns.no HF.out (hb0 _)
  obtain ⟨g0, hg0⟩ := getSg (gs := gs) (k := 0) (by omega)
  have hn1 : ¬ ((gs.length : Int) < 1) := by omega
  have hn8 : ¬ ((8 : Int) < (gs.length : Int)) := by omega
  cases hx : inB x 0 100000 with
  | false =>
    have HF : Hid (stG gs x = false) := by
      show _ = _
      cases gs with
      | nil => rfl
      | cons g r => simp only [stG]; rw [hx]; simp
    have HX : Hid (inB x 0 100000 = false) := hx
    clear hs hx hg0
    go_enter Tryd.func53, Tryd.ntmps53
    go_wp2_with (go_at_call 64; refine (within_any _ _ _).mono ?_; rintro r w1 ⟨hr, rfl⟩; rw [HX.out] at hr; subst hr)
    go_ret2
    exact AbAns.no HF.out (hb0 _)
  | true =>
    have HX : Hid (inB x 0 100000 = true) := hx
    have HG : Hid (stG gs x = imGood gs.length x (rsOf gs) g0.base) := stG_eq hg0 (by omega) hx
    have HS : Hid (Sgs w a gs) := hs
    obtain ⟨kb, ob, rfl, ra0, rc0, z0, -⟩ := hs 0 g0 hg0
    rw [Nat.zero_mul, Nat.add_zero] at z0
    have z0w := fun o => ((hb0 o).cell (p := ⟨kb, ob, none⟩) (lt_of_cell z0)).trans z0
    have HG0 : Hid (gs[0]? = some g0) := hg0
    have hz3 : (0 : Int) < (gs.length : Int) := by omega
    clear hs hx z0 hg0
    go_enter Tryd.func53, Tryd.ntmps53
    go_wp2_with (go_at_call 64; refine (within_any _ _ _).mono ?_; rintro r w1 ⟨hr, hw⟩; rw [HX.out] at hr; subst hr; subst hw)
    generalize hW0 : w.alloc (.cells #[.slice (some ⟨kb, ob, none⟩) gs.length c, .int .i64 x] 30) = W0 at *
    have B0 : Below w.heap.size w W0 := by rw [← hW0]; exact hb0 _
    have s0 : W0.cell? ⟨w.heap.size, 1, none⟩ = some (.int .i64 x) := by rw [← hW0]; simp
    have ls := lt_of_cell s0
    have HW : Hid (w.alloc (.cells #[.slice (some ⟨kb, ob, none⟩) gs.length c, .int .i64 x] 30) = W0) := hW0
    clear hW0 z0w
    go_loopw [5, 6, 34] (fun v nv i wr => ∃ (k : Nat) (qs : List Q) (nx : Int), k ≤ gs.length ∧ i = .int .i64 k ∧ nv = .int .i64 nx ∧ qs.length ≤ k * 1000 ∧ Hid (imF gs.length k (rsOf (gs.drop k)) nx (qsB qs) = imF gs.length 0 (rsOf gs) g0.base []) ∧ RdSt W0 wr v qs) (fun _ _ i _ => gs.length - (intOf i).toNat)
    case atStart => exact ⟨0, [], g0.base, Nat.zero_le _, rfl, rfl, Nat.zero_le _, rfl, rd_start W0⟩
    case round =>
      obtain ⟨k, qs, nx, hk, rfl, rfl, hql, HI, hst⟩ := hrel
      obtain ⟨av, cv, rfl⟩ := owns_form hst.own
      have HST : Hid (RdSt W0 wr (.slice av qs.length cv) qs) := hst
      have BW : Below w.heap.size w wr := B0.trans (hst.bel.mono B0.size)
      have s1 : wr.cell? ⟨w.heap.size, 1, none⟩ = some (.int .i64 x) := (hst.bel.cell (p := ⟨w.heap.size, 1, none⟩) ls).trans s0
      by_cases hlt : k < gs.length
      · obtain ⟨g, hkg⟩ := getSg hlt
        obtain ⟨kb', ob', e, ra, rc, c0, c1, c2, hix, hil, hbz⟩ := (HS.out.below BW) k g hkg
        simp only [Option.some.injEq, Addr.mk.injEq, and_true] at e
        obtain ⟨rfl, rfl⟩ := e
        have HK : Hid (rsOf (gs.drop k) = g.rs :: rsOf (gs.drop (k + 1))) := rs_drop hkg
        have hT1 := fun o => hTab.below (BW.trans ((ha wr o).mono BW.size)) hw0
        clear hkg hst
        go_wp2_with fail
        refine (segmentBatches_any g _ _ _ (hix.below (ha _ _)) hil hbz (hT1 _)).mono ?_
        rintro r w1 ⟨ps, a1, c1', rfl, hps, hst1⟩
        have hst1' : RdSt wr w1 (.slice a1 ps.length c1') ps := rd_mono hst1 (ha _ _)
        have hcel := (bcell hst1.bel).1
        simp only [World.size_alloc] at hcel
        have b0 : w1.cell? ⟨wr.heap.size, 0, none⟩ = some (.int .i64 g.base) := (hcel _ _ (by omega)).trans (by simp)
        have BW1 : Below w.heap.size w w1 := BW.trans (hst1'.bel.mono BW.size)
        clear hst1 hcel c0 c1 c2 hix hT1 s1
        cases hf : g.fine with
        | false =>
          have HN : Hid (stG gs x = false) := by
            show _ = _
            rw [HG.out]
            apply imGood_no
            rw [← HI.out, HK.out, imF, if_neg]
            rw [imOk_eq, hf]
            simp
          clear hps hst1' HST hf
          go_wp2
          go_ret2
          exact AbAns.no HN.out BW1
        | true =>
          have HQ : Hid (qsB ps = g.l) := hps hf
          have hpl : ps.length ≤ 1000 := by rw [← qsB_len ps, HQ.out]; exact Sg.short hf
          have HF1 : Hid (g.fine = true) := hf
          clear hps hf
          by_cases hb : g.base = nx
          case neg =>
            have HN : Hid (stG gs x = false) := by
              show _ = _
              rw [HG.out]
              apply imGood_no
              rw [← HI.out, HK.out, imF, if_neg]
              rw [imOk_eq, decide_eq_false hb]
              simp
            have hbn : (g.base != nx) = true := by simpa using hb
            clear hst1' HST hb
            go_wp2
            go_ret2
            exact AbAns.no HN.out BW1
          case pos =>
            have hbn : (g.base != nx) = false := by simpa using hb
            have HB : Hid (g.base = nx) := hb
            have HEM : Hid (g.l.isEmpty = decide (ps.length = 0)) := by
              show _ = _
              rw [← HQ.out]
              cases ps with
              | nil => rfl
              | cons q t => simp [qsB]
            clear hb
            by_cases hem : ps.length = 0 ∧ k + 1 < gs.length
            · obtain ⟨he, hk1⟩ := hem
              have HN : Hid (stG gs x = false) := by
                show _ = _
                rw [HG.out]
                apply imGood_no
                rw [← HI.out, HK.out, imF, if_neg]
                rw [imOk_eq, HEM.out, decide_eq_true he, decide_eq_true hk1]
                simp
              have e1 : ((ps.length : Int) == 0) = true := by rw [he]; rfl
              have e2 : (k : Int) < (gs.length : Int) - 1 := by omega
              clear hst1' HST he hk1
              go_wp2
              go_ret2
              exact AbAns.no HN.out BW1
            · have HOK : Hid (imOk gs.length k g.rs nx = true) := by
                show _ = _
                rw [imOk_eq, HF1.out, HEM.out, decide_eq_true HB.out]
                cases hd : (decide (ps.length = 0) && decide (k + 1 < gs.length)) with
                | false => rfl
                | true => rw [Bool.and_eq_true, decide_eq_true_eq, decide_eq_true_eq] at hd; exact absurd hd hem
              have HNX : Hid (imF gs.length (k + 1) (rsOf (gs.drop (k + 1))) (endB nx (qsB ps)) (qsB (qs ++ ps)) = imF gs.length 0 (rsOf gs) g0.base []) := by
                show _ = _
                rw [← HI.out, HK.out, imF, if_pos HOK.out]
                have e1 : g.rs.l = g.l := rfl
                rw [e1, HQ.out, qsB, List.map_append]
                rw [show List.map Q.b ps = qsB ps from rfl, HQ.out]
                rfl
              have HSRC := rd_src hst1'
              have HO1 := owns_below HST.out.own hst1'.bel
              have HEB : Hid (∀ u, Bats u a1 (qsB ps) → Calls Tryd.prog 68 #[.int .i64 nx, .slice a1 ps.length c1'] u fun r w' => r = .returned (.int .i64 (endB nx (qsB ps))) ∧ Below u.heap.size u w') := fun u hu => by
                have h := endBehind_any nx a1 c1' (qsB ps) u hu (by rw [qsB_len]; omega) (fun b hb => by
                  rw [HQ.out] at hb
                  have := good_num (goodLog_mem (readL_good g.bytes.data.toList) b hb)
                  exact ⟨this.1, this.2.1, this.2.2.2⟩)
                rwa [qsB_len] at h
              have hW1 := BW1.size
              have hBs := B0.size
              have hsz := HST.out.bel.size
              have hsz1 := hst1'.bel.size
              have hbase : W0.heap.size ≤ w1.heap.size := by omega
              have hpc : ((ps.length : Int) == 0) = false ∨ (((ps.length : Int) == 0) = true ∧ ¬ (k : Int) < (gs.length : Int) - 1) := by
                by_cases he : ps.length = 0
                · refine .inr ⟨by rw [he]; rfl, fun h => hem ⟨he, by omega⟩⟩
                · exact .inl (beq_eq_false_iff_ne.2 (by omega))
              clear hem
              rcases hpc with e1 | ⟨e1, e2⟩
              all_goals
                go_wp2_with (at_builtin; refine append_anyB _ rfl _ _ 47 rfl W0.heap.size 43 i0 _ 5 56 Tryd.underlying47 hi hz0 hz1 hz2 rfl (by decide) (.slice av qs.length cv) qs.length (qsCells qs) rfl HO1 a1 ps.length c1' (qsCells ps) rfl HSRC (qCells_oneCell ps) ?c3 ?c4 ?c5 ?_)
                case c3 => unfold maxLen; omega
                case c4 => omega
                case c5 => exact hbase
                intro v2 w2 hown2 hgrow2
                have hst2 := rd_join' HST.out hst1' hgrow2 hown2
                have HBT : Bats w2 a1 (qsB ps) := rd_bats_in hst1' (fun j h1 h2 => hgrow2.block j h2 (fun e => by have := (HST.out.own.lt j e.symm).2; omega))
                have HS2 : Hid (RdSt W0 w2 v2 (qs ++ ps)) := hst2
                clear hst2 hown2 hgrow2 HO1 HSRC b0
                go_wp2_with fail
                refine (HEB.out _ HBT).mono ?_
                rintro r w3 ⟨rfl, hB3⟩
                have HS3 : Hid (RdSt W0 w3 v2 (qs ++ ps)) := rd_below HS2.out hB3
                clear hB3 HS2 HBT HEB hst1' HST
                go_wp2
                go_roundw
                case rel => exact ⟨k + 1, qs ++ ps, endB nx (qsB ps), by omega, by go_num, rfl, by rw [List.length_append]; omega, HNX, HS3.out⟩
                case measure => simp [intOf]; omega
      · obtain rfl : k = gs.length := by omega
        have HE : Hid (imF gs.length 0 (rsOf gs) g0.base [] = some (nx, qsB qs)) := by
          show _ = _
          rw [← HI.out, List.drop_length]
          rfl
        have hca : qs.length ≤ cv := by
          obtain ⟨-, ⟨hv, h0⟩ | ⟨g, cap, cur, hv, -, -, hnc, -⟩⟩ := hst.own
          · omega
          · simp only [Value.slice.injEq] at hv
            omega
        clear HI
        by_cases hnx : nx = x
        · subst hnx
          have HGL : Hid (Calls Tryd.prog 69 #[.slice av qs.length cv] wr fun r w' => r = .returned (.bool (goodLog (qsB qs))) ∧ Below wr.heap.size wr w') := by
            have h := implGoodLog_any av cv (qsB qs) wr (rd_bats hst) (by rw [qsB_len]; unfold maxLen; omega) (by rw [qsB_len]; exact hca)
            rwa [qsB_len] at h
          have hne : (nx != nx) = false := by simp
          cases hg : goodLog (qsB qs) with
          | false =>
            have HN : Hid (stG gs nx = false) := by
              show _ = _
              rw [HG.out, imGood_eq HE.out, hg]
              simp
            have HG2 : Hid (goodLog (qsB qs) = false) := hg
            clear hst hg
            go_wp2_with (go_at_call 69; refine HGL.out.mono ?_; rintro r w3 ⟨hr, hB3⟩; rw [HG2.out] at hr; subst hr)
            go_ret2
            exact AbAns.no HN.out (BW.trans (hB3.mono BW.size))
          | true =>
            have HN : Hid (stG gs nx = true) := by
              show _ = _
              rw [HG.out, imGood_eq HE.out, hg]
              simp
            have HA : Hid (qsB qs = stAll gs) := by
              have h := imF_all HE.out
              show qsB qs = stAll gs
              simpa using h
            have HG2 : Hid (goodLog (qsB qs) = true) := hg
            clear hst hg
            go_wp2_with (go_at_call 69; refine HGL.out.mono ?_; rintro r w3 ⟨hr, hB3⟩; rw [HG2.out] at hr; subst hr)
            go_ret2
            exact AbAns.yes HN.out HA.out (rd_mono (rd_below HST.out hB3) B0)
        · have HN : Hid (stG gs x = false) := by
            show _ = _
            rw [HG.out, imGood_eq HE.out, decide_eq_false hnx]
            rfl
          have hne : (nx != x) = true := by simpa using hnx
          clear hst hnx
          go_wp2
          go_ret2
          exact AbAns.no HN.out BW

set_option maxHeartbeats 1000000 in
theorem implGoodStore_any (gs : List Sg) (a : Option Addr) (c : Nat) (x : Int) (w : World) (hs : Sgs w a gs) (hl : gs.length ≤ maxLen) (hTab : TabAt w) :
    Calls Tryd.prog 30 #[.agg #[.slice a gs.length c, .int .i64 x]] w fun r w' => r = .returned (.bool (stG gs x)) ∧ Below w.heap.size w w' := by
  have hw0 : 0 < w.heap.size := lt_of_cell (hTab 0 (by omega))
  have hb0 : ∀ o, Below w.heap.size w (w.alloc o) := fun o => (Below.refl _ _).alloc (Nat.le_refl _) o
  have hs0 := fun o => hs.below (hb0 o)
  have hT0 := fun o => hTab.below (hb0 o) hw0
  clear hs
  go_enter Tryd.func30, Tryd.ntmps30
  go_wp2_with fail
  refine (implAll_any gs _ _ _ _ (hs0 _) hl (hT0 _)).mono ?_
  rintro r w1 ⟨qs, a1, c1, rfl, -, hst⟩
  have BB := (hb0 _).trans (hst.bel.mono (hb0 _).size)
  clear hst
  go_wp2
  go_ret
  exact ⟨rfl, BB⟩

end Go.Proofs.YtomigekigcklfaaDoor
