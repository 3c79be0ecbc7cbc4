/-
  The walk of the law FnExactRecoverFile: at every disk and number it answers true and leaves what was there as it was, where the sum's table is laid.
-/
import Derived.Test.YtopndglgbollfaaDoorRecSpec
import Derived.Test.YtopndglgbollfaaDoorLawSurv
namespace Go.Proofs.YtopndglgbollfaaDoor
open Go.RowKit

theorem RecAns.form {w w' : World} {gs : List Fl} {bs : List Bt} {ok : Bool} {r : Ending} (h : RecAns w gs bs ok r w') :
    ∃ (a : Option Addr) (c : Nat) (qs : List Q) (b : Option Addr) (d M : Nat), r = .returned (.tuple #[.agg #[.slice a gs.length c], .slice b bs.length d, .bool ok]) ∧ qs.length = bs.length ∧ qsB qs = bs ∧ Fls w' a gs ∧ RowF w' M a gs.length ∧ RdSt w w' (.slice b qs.length d) qs ∧ (∀ x, InLog b qs x → x < M) ∧ w.heap.size ≤ M ∧ M ≤ w'.heap.size := by
  obtain ⟨a, c, qs, b, d, w1, w2, rfl, rfl, HF, HR, hst, l1, l2, hx, bel⟩ := h
  have lb := hst.bel.size
  refine ⟨a, c, qs, b, d, w2.heap.size, by rw [qsB_len], (qsB_len qs).symm, rfl, HF, HR, ⟨ownsR_of_block (owns_mono hst.own l1) (fun k hk => hx k (hst.own.lt k hk).1 (hst.own.lt k hk).2), fun q hq => ⟨ownsR_of_block (owns_mono (hst.recs q hq).1 l1) (fun k hk => hx k ((hst.recs q hq).1.lt k hk).1 ((hst.recs q hq).1.lt k hk).2), (hst.recs q hq).2⟩, hst.gne, hst.dis, bel⟩, fun x hi => ((LogRow.of_rd hst).lt hi).2, by omega, l2⟩

theorem offR {w w' : World} {P : Nat → Prop} {b o : Nat} {v : Value} (hO : ∀ b, b < w.heap.size → ¬ P b → w'.heap[b]? = w.heap[b]?) (hn : ¬ P b) (h : w.cell? ⟨b, o, none⟩ = some v) : w'.cell? ⟨b, o, none⟩ = some v :=
  (World.cell?_of_block (a := ⟨b, o, none⟩) (hO b (lt_of_cell h) hn)).trans h

set_option maxRecDepth 100000 in
set_option maxHeartbeats 8000000 in
theorem lawRec_walk (fs gs : List Fl) (bs : List Bt) (ok : Bool) (file : Int) (a : Option Addr) (c : Nat) (w : World) (hs : Fls w a fs) (hl : fs.length ≤ maxLen) (hg4 : gs.length ≤ 4) (hb : bs.length ≤ 300) (hTab : TabAt w)
    (HS0 : ∀ (w : World) (a : Option Addr) (c : Nat), Fls w a fs → Calls Tryd.prog 6 #[.agg #[.slice a fs.length c], .int .i64 file] w fun r w' => RecAns w gs bs ok r w')
    (HI0 : ∀ (w : World) (a : Option Addr) (c : Nat), TabAt w → Fls w a fs → Calls Tryd.prog 8 #[.agg #[.slice a fs.length c], .int .i64 file] w fun r w' => RecAns w gs bs ok r w') :
    Calls Tryd.prog 3 #[.agg #[.slice a fs.length c], .int .i64 file] w fun r w' => r = .returned (.bool true) ∧ Below w.heap.size w w' := by
  have hw0 : 0 < w.heap.size := lt_of_cell (hTab 0 (by omega))
  have ha : ∀ (u : World) o, Below u.heap.size u (u.alloc o) := fun u o => (Below.refl _ _).alloc (Nat.le_refl _) o
  have hT : (ok != ok) = false := by cases ok <;> rfl
  have hbm : bs.length ≤ maxLen := by unfold maxLen; omega
  have hgm : gs.length ≤ maxLen := by unfold maxLen; omega
  have HS : Hid (∀ (w : World) (a : Option Addr) (c : Nat), Fls w a fs → Calls Tryd.prog 6 #[.agg #[.slice a fs.length c], .int .i64 file] w fun r w' => RecAns w gs bs ok r w') := HS0
  have HI : Hid (∀ (w : World) (a : Option Addr) (c : Nat), TabAt w → Fls w a fs → Calls Tryd.prog 8 #[.agg #[.slice a fs.length c], .int .i64 file] w fun r w' => RecAns w gs bs ok r w') := HI0
  clear HS0 HI0
  have hb0 : Below w.heap.size w (w.alloc (.cells #[.slice a fs.length c] 24)) := (Below.refl _ _).alloc (Nat.le_refl _) _
  have hs0 := hs.below hb0
  by_cases hn : szD fs 1048576 < 0
  · go_enter Tryd.func3, Tryd.ntmps3
    go_wp2_with fail
    refine (szDisk_any _ _ _ _ _ hs0 hl (by omega) (by omega)).mono ?_
    rintro r w1 ⟨rfl, hB1⟩
    go_wp2
    go_ret
    exact ⟨rfl, Below.stepS hb0 hB1⟩
  have hlen : fs.length ≤ 1048576 := by have := (szD_bound (fs := fs) (left := 1048576) (by omega)).1; omega
  go_enter Tryd.func3, Tryd.ntmps3
  go_wp2_with fail
  refine (szDisk_any _ _ _ _ _ hs0 hl (by omega) (by omega)).mono ?_
  rintro r w1 ⟨rfl, hB1⟩
  have cA : w1.cell? ⟨w.heap.size, 0, none⟩ = some (.slice a fs.length c) := celS hB1 (by simp)
  have HA := hs0.below hB1
  have BB := Below.stepS hb0 hB1
  clear hB1 hs0 hb0
  go_wp2_with fail
  refine (toDisk_any _ _ _ _ HA hlen).mono ?_
  rintro r w2 ⟨a2, rfl, H2, -, hB2⟩
  replace cA := celS hB2 cA
  replace HA := HA.below hB2
  replace BB := Below.stepS BB hB2
  clear hB2
  go_wp2_with fail
  refine (HS.out _ _ _ H2).mono ?_
  intro r w3 hr
  obtain ⟨aw, cw, qw, bw, dw, Mw, rfl, -, hqw, HW, -, hsw, -, -, -⟩ := hr.form
  have hB3 := hsw.bel
  have HWb : Bats w3 bw bs := by have := rd_bats hsw; rwa [hqw] at this
  have hav := ha w3 (.cells #[.slice aw gs.length cw] 28)
  have lv : (w3.alloc (.cells #[.slice aw gs.length cw] 28)).heap.size = w3.heap.size + 1 := by simp
  have cW : (w3.alloc (.cells #[.slice aw gs.length cw] 28)).cell? ⟨w3.heap.size, 0, none⟩ = some (.slice aw gs.length cw) := by simp
  replace cA := celS hav (celS hB3 cA)
  replace HA := (HA.below hB3).below hav
  replace HW := HW.below hav
  replace HWb := HWb.below hav
  replace BB := Below.stepS (Below.stepS BB hB3) hav
  clear hB3 H2 HS hr hsw hqw hav
  go_wp2_with fail
  refine (toDisk_any _ _ _ _ HA hlen).mono ?_
  rintro r w4 ⟨a4, rfl, HX, RX, T4⟩
  generalize w3.alloc (.cells #[.slice aw gs.length cw] 28) = v3 at *
  have HB3 : Hid (Below w.heap.size w v3) := BB
  have l3 : v3.heap.size ≤ w4.heap.size := T4.size
  have lX : ∀ b, InB a4 fs.length b → v3.heap.size ≤ b ∧ b < w4.heap.size := fun b hb => RX.lt hb
  have hTb : ∀ o, TabAt (w4.alloc o) := fun o => hTab.below (HB3.out.trans ((T4.trans ((ha w4 o).mono T4.size)).mono HB3.out.size)) hw0
  have cA4 := fun o => celS (ha w4 o) (celS T4 cA)
  have cW4 := fun o => celS (ha w4 o) (celS T4 cW)
  clear BB
  go_wp2_with fail
  refine (HI.out _ _ _ (hTb _) (HX.below (ha _ _))).mono ?_
  intro r w5 hr
  obtain ⟨ag, cg, qg, bg, dg, M, rfl, hlg, hqg, HG, RG, hsg, lML, hM0, hM1⟩ := hr.form
  have hB5 := hsg.bel
  have h8 : ∀ q, q ∈ qg → q.b.recs.length ≤ 8 := fun q hq => (hsg.recs q hq).2.2
  have hkq := kTo_le qg (1 + 2 * gs.length) h8
  have hk9 : kTo qg (1 + 2 * gs.length) ≤ 1000000000 := by omega
  have hq4 : qg.length ≤ 1000000 := by omega
  have cX : w5.cell? ⟨w4.heap.size, 0, none⟩ = some (.slice a4 fs.length fs.length) := celS hB5 (by simp)
  replace HX := (HX.below (ha _ _)).below hB5
  replace RX := (RX.below (ha _ _)).below hB5
  have T5 := Below.stepS (Below.stepS T4 (ha _ _)) hB5
  have l4 : w4.heap.size < w5.heap.size := lt_of_cell cX
  have lG : ∀ b, InB ag gs.length b → M ≤ b ∧ b < w5.heap.size := fun b hb => RG.lt hb
  simp only [World.size_alloc] at hM0
  have cA5 := fun o => celS (ha w5 o) (celS T5 cA)
  have cW5 := fun o => celS (ha w5 o) (celS T5 cW)
  have cX5 := fun o => celS (ha w5 o) cX
  clear hB5 hr T4 hkq cA4 cW4 cX
  go_wp2_with fail
  refine (eqDisk_same _ _ _ _ gs _ (HG.below (ha _ _)) ((HW.below T5).below (ha _ _)) hgm).mono ?_
  rintro r w6 ⟨rfl, hB6⟩
  have V6 := Below.stepS (ha _ _) hB6
  have T6 := Below.stepS T5 V6
  have cA6 := celS hB6 (cA5 _)
  have cW6 := celS hB6 (cW5 _)
  have cX := celS hB6 (cX5 _)
  have cG : w6.cell? ⟨w5.heap.size, 0, none⟩ = some (.slice ag gs.length cg) := celS hB6 (by simp)
  have l5 : w5.heap.size < w6.heap.size := lt_of_cell cG
  replace HX := HX.below V6
  replace RX := RX.below V6
  replace HG := HG.below V6
  replace RG := RG.below V6
  replace hsg := rd_below hsg V6
  have HGb : Bats w6 bg bs := by have := rd_bats hsg; rwa [hqg] at this
  clear hB6 V6 T5 cA5 cW5 cX5
  go_wp2_with fail
  refine (eqBatchS_same _ _ _ _ bs _ HGb (HWb.below T6) hbm).mono ?_
  rintro r wA ⟨rfl, hBA⟩
  have TA := Below.stepS T6 hBA
  replace cA6 := celS hBA cA6
  replace cW6 := celS hBA cW6
  replace cX := celS hBA cX
  replace cG := celS hBA cG
  have HAA := HA.below TA
  replace HX := HX.below hBA
  replace RX := RX.below hBA
  replace HG := HG.below hBA
  replace RG := RG.below hBA
  replace hsg := rd_below hsg hBA
  have lA6 := hBA.size
  clear hBA T6 HGb
  go_wp2_with fail
  go_region_held3 (fun w' => w'.cell? ⟨w4.heap.size, 0, none⟩ = some (.slice a4 fs.length fs.length) ∧ w'.cell? ⟨w.heap.size, 0, none⟩ = some (.slice a fs.length c))
    (first | exact kk | go_keep)
    (first
      | (go_at_call 7; refine (toDisk_any _ _ _ _ ?_ hlen).mono ?_; exact HAA.below (Below.refl _ _).drew; rintro r w7 ⟨a7, rfl, H7, -, hB7⟩; have kk := twoS hB7 (N := w4.heap.size) (M := w.heap.size) (v0 := .slice a4 fs.length fs.length) (v1 := .slice a fs.length c) (by first | exact kk | simp [cX, cA6]))
      | (go_at_call 9; refine (eqDisk_same _ _ _ _ fs _ ?_ ?_ hl).mono ?_; exact (HX.below (Below.refl _ _).drew).below hB7; exact H7; rintro r w8 ⟨rfl, hB8⟩; have kk := twoS hB8 (N := w4.heap.size) (M := w.heap.size) (v0 := .slice a4 fs.length fs.length) (v1 := .slice a fs.length c) kk))
  have D8 : Below wA.heap.size wA w8 := (((Below.refl wA.heap.size wA).drew).trans (hB7.mono (by simp))).trans (hB8.mono (by have := hB7.size; simpa using this))
  have T8 := Below.stepS TA D8
  replace cA6 := celS D8 cA6
  replace cW6 := celS D8 cW6
  replace cX := celS D8 cX
  replace cG := celS D8 cG
  replace RX := RX.below D8
  replace HG := HG.below D8
  replace RG := RG.below D8
  replace hsg := rd_below hsg D8
  have l8 := D8.size
  have lT8 := T8.size
  clear D8 hB7 hB8 H7 kk HX HAA TA
  go_wp2_with fail
  refine (markDisk_any _ _ _ v3.heap.size 1 _ RX (by omega) (by omega) lT8).mono ?_
  rintro r w9 ⟨rfl, -, -, hB9, hO9⟩
  have T9 := T8.trans hB9
  have hfar : ∀ b, w4.heap.size + 1 ≤ b → b < w8.heap.size → w9.heap[b]? = w8.heap[b]? := fun b h1 h2 => hO9 b h2 (fun h => by have := lX b h; omega)
  replace cA6 := celS T9 cA
  replace cW6 := celS T9 cW
  replace cG := offR hO9 (fun h => by have := lX _ h; omega) cG
  replace HG := HG.of_block (fun b h => hfar b (by have := lG b h; omega) (HG.ltS b h))
  replace RG := RG.of_block (fun b h => hfar b (by have := lG b h; omega) (RG.lt h).2)
  have HGb : Bats w9 bg bs := by
    have := bats_move (w' := w9) hsg (fun b h1 h2 => hfar b (by simpa using h1) h2)
    rwa [hqg] at this
  have RL : LogRow w9 (w4.heap.size + 1) bg qg := by
    have h := LogRow.of_rd hsg
    simp only [World.size_alloc] at h
    exact h.of_block (fun b hb => hfar b (h.lt hb).1 (h.lt hb).2)
  have hk : ¬ (((1 + 2 * fs.length : Nat) : Int) < 0) := by omega
  have l9 := hB9.size
  clear hB9 hO9 RX cX hfar hsg T8
  go_wp2_with fail
  refine (eqDisk_same _ _ _ _ gs _ HG (HW.below T9) hgm).mono ?_
  rintro r w10 ⟨rfl, hB10⟩
  have T10 := Below.stepS T9 hB10
  replace cA6 := celS hB10 cA6
  replace cW6 := celS hB10 cW6
  replace cG := celS hB10 cG
  replace RG := RG.below hB10
  replace HGb := HGb.below hB10
  replace RL := RL.below hB10
  have l10 := hB10.size
  clear hB10 HG T9
  go_wp2_with fail
  refine (eqBatchS_same _ _ _ _ bs _ HGb (HWb.below T10) hbm).mono ?_
  rintro r w11 ⟨rfl, hB11⟩
  have T11 := Below.stepS T10 hB11
  replace cA6 := celS hB11 cA6
  replace cW6 := celS hB11 cW6
  replace cG := celS hB11 cG
  replace RG := RG.below hB11
  replace RL := RL.below hB11
  have l11 := hB11.size
  clear hB11 HGb hk T10
  obtain ⟨k1, hk1⟩ : ∃ k1, 1 + 2 * gs.length = k1 := ⟨_, rfl⟩
  have hmd := markDisk_any ag cg gs.length M 1 w11 RG (by omega) (by omega) (by omega)
  rw [hk1] at hmd
  go_wp2_with fail
  refine hmd.mono ?_
  rintro r w12 ⟨rfl, HM, -, hB12, hO12⟩
  have T12 : Below v3.heap.size v3 w12 := T11.trans (hB12.mono (by omega))
  replace cA6 := celS T12 cA
  replace cW6 := celS T12 cW
  replace cG := offR hO12 (fun h => by have := lG _ h; omega) cG
  replace RL := RL.of_block (fun b hb => hB12.block b (lML b hb))
  have l12 := hB12.size
  have hmk := markBatchS_row bg dg (w4.heap.size + 1) (1 + 2 * gs.length) qg w12 RL h8 hk9 (by omega) hq4
  rw [hlg, hk1] at hmk
  have lHM : ∀ b, InB ag (markFs 1 gs.length).length b → M ≤ b := fun b hb => (lG b (by rwa [markFs_length] at hb)).1
  clear hB12 hO12 RG hmd T11
  go_wp2_with fail
  refine hmk.mono ?_
  rintro r w13 ⟨rfl, HMb, hB13, hO13⟩
  have T13 : Below v3.heap.size v3 w13 := T12.trans (hB13.mono (by omega))
  replace cA6 := celS T13 cA
  replace cW6 := celS T13 cW
  replace cG := offR hO13 (fun h => by have := lML _ h; omega) cG
  replace HM := HM.of_block (fun b hb => hO13 b (HM.ltS b hb) (fun h => by have := lML _ h; have := lHM b hb; omega))
  obtain ⟨K, hK⟩ : ∃ K, kTo qg k1 = K := ⟨_, rfl⟩
  have hm : ((K : Int) != (K : Int)) = false := by simp
  have hp : ¬ ((K : Int) < 0) := by omega
  have hp1 : ¬ ((k1 : Int) < 0) := by omega
  have hh := fun (u : World) (hu : Bats u bg (markQs qg (1 + 2 * gs.length))) => heldBatchS_any bg dg (1 + 2 * gs.length) qg u hu (by omega) hk9 hq4
  rw [hlg, hk1, hK] at hh
  have HH : Hid (∀ (u : World), Bats u bg (markQs qg k1) → Calls Tryd.prog 14 #[.slice bg bs.length dg, .int .i64 (k1 : Int)] u fun r w' => r = .returned (.int .i64 (K : Int)) ∧ Below u.heap.size u w') := hh
  have hd := fun (u : World) (hu : Fls u ag (markFs 1 gs.length)) => heldDisk_any ag cg gs.length 1 u hu (by omega) (by omega)
  rw [hk1] at hd
  have HD : Hid (∀ (u : World), Fls u ag (markFs 1 gs.length) → Calls Tryd.prog 13 #[.agg #[.slice ag gs.length cg], .int .i64 ((1 : Nat) : Int)] u fun r w' => r = .returned (.int .i64 (k1 : Int)) ∧ Below u.heap.size u w') := hd
  rw [hK]
  clear hB13 hO13 hmk hh hd hk9 hK RL T12 hk1
  go_wp2_with fail
  refine (HD.out _ HM).mono ?_
  rintro r w14 ⟨rfl, hB14⟩
  replace cA6 := celS hB14 cA6
  replace cW6 := celS hB14 cW6
  replace cG := celS hB14 cG
  replace HM := HM.below hB14
  replace HMb := HMb.below hB14
  have T14 := Below.stepS T13 hB14
  clear hB14 T13
  go_wp2_with fail
  refine (HH.out _ HMb).mono ?_
  rintro r w15 ⟨rfl, hB15⟩
  replace cA6 := celS hB15 cA6
  replace cW6 := celS hB15 cW6
  replace cG := celS hB15 cG
  replace HM := HM.below hB15
  replace HMb := HMb.below hB15
  have T15 := Below.stepS T14 hB15
  clear hB15 T14
  go_wp2_with fail
  refine (toDisk_any _ _ _ _ (HA.below T15) hlen).mono ?_
  rintro r w16 ⟨a16, rfl, H16, -, hB16⟩
  replace cW6 := celS hB16 cW6
  replace cG := celS hB16 cG
  replace HM := HM.below hB16
  replace HMb := HMb.below hB16
  have T16 := Below.stepS T15 hB16
  have hTb16 : TabAt w16 := hTab.below (HB3.out.trans (T16.mono HB3.out.size)) hw0
  clear hB16 HA cA6 cA T15
  go_wp2_with fail
  refine (HI.out _ _ _ hTb16 H16).mono ?_
  intro r w17 hr
  obtain ⟨ah, ch, qh, bh, dh, Mh, rfl, -, hqh, HHd, -, hsh, -, -, -⟩ := hr.form
  have HHs : Bats w17 bh bs := by have := rd_bats hsh; rwa [hqh] at this
  have hB17 := hsh.bel
  replace cW6 := fun o => celS (ha w17 o) (celS hB17 cW6)
  replace cG := fun o => celS (ha w17 o) (celS hB17 cG)
  replace HM := HM.below hB17
  replace HMb := HMb.below hB17
  have T17 := Below.stepS T16 hB17
  clear hr hsh HI hTb16 H16 T16 hB17
  go_wp2_with fail
  refine (eqDisk_same _ _ _ _ gs _ (HHd.below (ha _ _)) ((HW.below T17).below (ha _ _)) hgm).mono ?_
  rintro r w18 ⟨rfl, hB18⟩
  have V18 := Below.stepS (ha _ _) hB18
  have T18 := Below.stepS T17 V18
  replace cG := celS hB18 (cG _)
  replace HM := HM.below V18
  replace HMb := HMb.below V18
  replace HHs := HHs.below V18
  clear hB18 HHd HW cW6 T17 V18
  go_wp2_with fail
  refine (eqBatchS_same _ _ _ _ bs _ HHs (HWb.below T18) hbm).mono ?_
  rintro r w19 ⟨rfl, hB19⟩
  replace cG := celS hB19 cG
  replace HM := HM.below hB19
  replace HMb := HMb.below hB19
  have T19 := Below.stepS T18 hB19
  clear hB19 HHs HWb T18
  go_wp2_with fail
  refine (HD.out _ HM).mono ?_
  rintro r w20 ⟨rfl, hB20⟩
  replace HMb := HMb.below hB20
  have T20 := Below.stepS T19 hB20
  clear hB20 HM T19
  go_wp2_with fail
  refine (HH.out _ HMb).mono ?_
  rintro r w21 ⟨rfl, hB21⟩
  have T21 := Below.stepS T20 hB21
  have BE : Below w.heap.size w w21 := HB3.out.trans (T21.mono HB3.out.size)
  clear hB21 HMb
  go_wp2
  go_ret
  exact ⟨rfl, BE⟩

theorem recB_len (fs : List Fl) (k : Int) : (recB fs k).length ≤ 300 := by
  unfold recB
  split
  · rename_i h
    cases hf : fs[k.toNat]? with
    | none => simp
    | some f =>
      have hok := okF_parts ((goodD_t (inF_t h).1).2.2 f (List.mem_of_getElem? hf))
      have hr := readR_len f.bytes.data.toList (f.bytes.data.toList.length + 1) none 0 (Nat.zero_le _)
      have hz : f.bytes.data.toList.length ≤ 400 := by rw [size_len]; omega
      simp only
      unfold readL
      omega
  · simp

theorem chg_lenR {fs : List Fl} {k : Int} {g : Fl → Option Fl} : (filesOf (chg fs k g)).length ≤ 4 := by
  unfold chg
  split
  · rename_i h
    have := (goodD_t (inF_t h).1).2.1
    cases (fs[k.toNat]?.bind g) with
    | none => simp [filesOf]
    | some f => simpa [filesOf] using this
  · simp [filesOf]

theorem lawRec_any (fs : List Fl) (file : Int) (a : Option Addr) (c : Nat) (w : World) (hs : Fls w a fs) (hl : fs.length ≤ maxLen) (hTab : TabAt w) :
    Calls Tryd.prog 3 #[.agg #[.slice a fs.length c], .int .i64 file] w fun r w' => r = .returned (.bool true) ∧ Below w.heap.size w w' :=
  lawRec_walk fs (filesOf (chg fs file (keptF (recN fs file)))) (recB fs file) (inF fs file) file a c w hs hl chg_lenR (recB_len fs file) hTab (fun w a c h => specRec_any a c fs file w h hl) (fun w a c hT h => implRec_any a c fs file w h hl hT)

end Go.Proofs.YtopndglgbollfaaDoor
