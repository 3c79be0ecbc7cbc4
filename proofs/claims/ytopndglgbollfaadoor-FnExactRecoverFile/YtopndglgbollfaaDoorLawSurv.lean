/-
  The walk of the law FnExactSurvivesIn: at every disk and number it answers true and leaves what was there as it was, where the sum's table is laid.
-/
import Derived.Test.YtopndglgbollfaaDoorSurv
import Derived.Test.YtopndglgbollfaaDoorMarkLog3
import Derived.Test.YtopndglgbollfaaDoorDsk2
import Derived.Deep.RegionHeld3
namespace Go.Proofs.YtopndglgbollfaaDoor
open Go.RowKit

theorem bats_own {wr : World} {B : Nat} {a : Option Addr} {c : Nat} {qs : List Q} (own : wr.ownsRow B 60 5 (.slice a qs.length c) qs.length (qsCells qs))
    (recs : ∀ q, q ∈ qs → wr.ownsRow B 9 1 (.slice q.a q.b.recs.length q.c) q.b.recs.length (strVals q.b.recs) ∧ (∀ s, s ∈ q.b.recs → s.size < 256) ∧ q.b.recs.length ≤ 8) : Bats wr a (qsB qs) := fun i b hi => by
  have hlt := (List.getElem?_eq_some_iff.1 hi).1
  rw [qsB_len] at hlt
  obtain ⟨q, hq⟩ : ∃ q, qs[i]? = some q := ⟨_, List.getElem?_eq_getElem hlt⟩
  obtain rfl : q.b = b := by simpa [qsB, hq] using hi
  obtain ⟨g, cap, f, hv, hg, hn, hR, hx⟩ := row_of_ownsB own (by omega)
  simp only [Value.slice.injEq] at hv
  obtain ⟨rfl, -, rfl⟩ := hv
  have hm := List.mem_of_getElem? hq
  have cell : ∀ j v, j < 5 → (qCells q)[j]? = some v → wr.cell? ⟨g, 0 + i * 5 + j, none⟩ = some v := fun j v hj hv => by
    have e := hx (i * 5 + j) (by omega)
    rw [qsCells_get qs i q hq j hj, hv] at e
    rw [Nat.zero_add, hR.cell (by omega)]
    exact e.symm
  refine ⟨g, 0, rfl, q.a, q.c, cell 0 _ (by omega) rfl, cell 1 _ (by omega) rfl, cell 2 _ (by omega) rfl, cell 3 _ (by omega) rfl, cell 4 _ (by omega) rfl, strs_of_owns (recs q hm).1 (recs q hm).2.1, ?_⟩
  have := (recs q hm).2.2
  unfold maxLen; omega

theorem bats_move {w0 w w' : World} {a : Option Addr} {c : Nat} {qs : List Q} (h : RdSt w0 w (.slice a qs.length c) qs) (hs : ∀ b, w0.heap.size ≤ b → b < w.heap.size → w'.heap[b]? = w.heap[b]?) : Bats w' a (qsB qs) :=
  bats_own (ownsR_of_block h.own (fun k hk => hs k (h.own.lt k hk).1 (h.own.lt k hk).2)) (fun q hq => ⟨ownsR_of_block (h.recs q hq).1 (fun k hk => hs k ((h.recs q hq).1.lt k hk).1 ((h.recs q hq).1.lt k hk).2), (h.recs q hq).2⟩)

theorem Below.stepS {W a b : World} (h : Below W.heap.size W a) (k : Below a.heap.size a b) : Below W.heap.size W b := h.trans (k.mono h.size)

theorem celS {w w' : World} {b o : Nat} {v : Value} (hb : Below w.heap.size w w') (h : w.cell? ⟨b, o, none⟩ = some v) : w'.cell? ⟨b, o, none⟩ = some v := (hb.cell (p := ⟨b, o, none⟩) (lt_of_cell h)).trans h

theorem twoS {W w1 : World} {N M : Nat} {v0 v1 : Value} (hB : Below W.heap.size W w1) (h : W.cell? ⟨N, 0, none⟩ = some v0 ∧ W.cell? ⟨M, 0, none⟩ = some v1) : w1.cell? ⟨N, 0, none⟩ = some v0 ∧ w1.cell? ⟨M, 0, none⟩ = some v1 :=
  ⟨celS hB h.1, celS hB h.2⟩

theorem Fls.ltS {w : World} {a : Option Addr} {fs : List Fl} (h : Fls w a fs) : ∀ b, InB a fs.length b → b < w.heap.size := fun b ⟨h0, o, s, e⟩ => by
  obtain ⟨f, hf⟩ := getFl (fs := fs) h0
  obtain ⟨k, o', e', hc, -⟩ := h 0 f hf
  rw [e'] at e
  simp only [Option.some.injEq, Addr.mk.injEq] at e
  have := lt_of_cell hc
  omega

theorem RdAns2.form {w w' : World} {bs : List Bt} {ok : Bool} {r : Ending} (h : RdAns2 w bs ok r w') :
    ∃ qs a c, r = .returned (.tuple #[.slice a bs.length c, .bool ok]) ∧ qs.length = bs.length ∧ qsB qs = bs ∧ RdSt w w' (.slice a qs.length c) qs := by
  obtain ⟨qs, a, c, rfl, rfl, hst⟩ := h
  exact ⟨qs, a, c, by rw [qsB_len], (qsB_len qs).symm, rfl, hst⟩

set_option maxRecDepth 100000 in
set_option maxHeartbeats 8000000 in
theorem lawSurv_walk (fs : List Fl) (bs : List Bt) (ok : Bool) (file : Int) (a : Option Addr) (c : Nat) (w : World) (hs : Fls w a fs) (hl : fs.length ≤ maxLen) (hb : bs.length ≤ 300) (hTab : TabAt w)
    (HS0 : ∀ (w : World) (a : Option Addr) (c : Nat), Fls w a fs → Calls Tryd.prog 15 #[.agg #[.slice a fs.length c], .int .i64 file] w fun r w' => RdAns2 w bs ok r w')
    (HI0 : ∀ (w : World) (a : Option Addr) (c : Nat), TabAt w → Fls w a fs → Calls Tryd.prog 16 #[.agg #[.slice a fs.length c], .int .i64 file] w fun r w' => RdAns2 w bs ok r w') :
    Calls Tryd.prog 4 #[.agg #[.slice a fs.length c], .int .i64 file] w fun r w' => r = .returned (.bool true) ∧ Below w.heap.size w w' := by
  have hw0 : 0 < w.heap.size := lt_of_cell (hTab 0 (by omega))
  have ha : ∀ (u : World) o, Below u.heap.size u (u.alloc o) := fun u o => (Below.refl _ _).alloc (Nat.le_refl _) o
  have hT : (ok != ok) = false := by cases ok <;> rfl
  have hbm : bs.length ≤ maxLen := by unfold maxLen; omega
  have HS : Hid (∀ (w : World) (a : Option Addr) (c : Nat), Fls w a fs → Calls Tryd.prog 15 #[.agg #[.slice a fs.length c], .int .i64 file] w fun r w' => RdAns2 w bs ok r w') := HS0
  have HI : Hid (∀ (w : World) (a : Option Addr) (c : Nat), TabAt w → Fls w a fs → Calls Tryd.prog 16 #[.agg #[.slice a fs.length c], .int .i64 file] w fun r w' => RdAns2 w bs ok r w') := HI0
  clear HS0 HI0
  have lA : ∀ b, InB a fs.length b → b < w.heap.size := hs.ltS
  have hb0 : Below w.heap.size w (w.alloc (.cells #[.slice a fs.length c] 24)) := (Below.refl _ _).alloc (Nat.le_refl _) _
  have hs0 := hs.below hb0
  by_cases hn : szD fs 1048576 < 0
  · go_enter Tryd.func4, Tryd.ntmps4
    go_wp2_with fail
    refine (szDisk_any _ _ _ _ _ hs0 hl (by omega) (by omega)).mono ?_
    rintro r w1 ⟨rfl, hB1⟩
    go_wp2
    go_ret
    exact ⟨rfl, Below.stepS hb0 hB1⟩
  have hlen : fs.length ≤ 1048576 := by have := (szD_bound (fs := fs) (left := 1048576) (by omega)).1; omega
  go_enter Tryd.func4, Tryd.ntmps4
  go_wp2_with fail
  refine (szDisk_any _ _ _ _ _ hs0 hl (by omega) (by omega)).mono ?_
  rintro r w1 ⟨rfl, hB1⟩
  have cA : w1.cell? ⟨w.heap.size, 0, none⟩ = some (.slice a fs.length c) := celS hB1 (by simp)
  have HA := hs0.below hB1
  have BB := Below.stepS hb0 hB1
  clear hB1 hs0 hb0
  go_wp2_with fail
  refine (toDisk_any _ _ _ _ HA hlen).mono ?_
  rintro r w2 ⟨a2, rfl, H2, -, hB2⟩
  replace cA := celS hB2 cA
  replace HA := HA.below hB2
  replace BB := Below.stepS BB hB2
  clear hB2
  go_wp2_with fail
  refine (HS.out _ _ _ H2).mono ?_
  intro r w3 hr
  obtain ⟨qw, aw, cw, rfl, hlw, hqw, hsw⟩ := hr.form
  have hB3 := hsw.bel
  have HW : Bats w3 aw bs := by have := rd_bats hsw; rwa [hqw] at this
  replace cA := celS hB3 cA
  replace HA := HA.below hB3
  replace BB := Below.stepS BB hB3
  have l0 : w.heap.size < w3.heap.size := lt_of_cell cA
  have HB3 : Hid (Below w.heap.size w w3) := BB
  clear hB3 H2 HS hr hsw hlw hqw
  go_wp2_with fail
  refine (toDisk_any _ _ _ _ HA hlen).mono ?_
  rintro r w4 ⟨a4, rfl, HX, RX, hB4⟩
  have cA4 := celS hB4 cA
  replace cA := fun o => celS (ha w4 o) cA4
  replace HA := HA.below hB4
  have T4 := hB4
  have l3 : w3.heap.size ≤ w4.heap.size := hB4.size
  have lX : ∀ b, InB a4 fs.length b → w3.heap.size ≤ b ∧ b < w4.heap.size := fun b hb => RX.lt hb
  have hTb : ∀ o, TabAt (w4.alloc o) := fun o => hTab.below (HB3.out.trans ((T4.trans ((ha w4 o).mono T4.size)).mono HB3.out.size)) hw0
  clear hB4 cA4 BB
  go_wp2_with fail
  refine (HI.out _ _ _ (hTb _) (HX.below (ha _ _))).mono ?_
  intro r w5 hr
  obtain ⟨qg, ag, cg, rfl, hlg, hqg, hsg⟩ := hr.form
  have hB5 := hsg.bel
  have HG : Bats w5 ag bs := by have := rd_bats hsg; rwa [hqg] at this
  have h8 : ∀ q, q ∈ qg → q.b.recs.length ≤ 8 := fun q hq => (hsg.recs q hq).2.2
  have hkq := kTo_le qg 1 h8
  have hk9 : kTo qg 1 ≤ 1000000000 := by omega
  have hq4 : qg.length ≤ 1000000 := by omega
  replace cA := celS hB5 (cA _)
  have cX : w5.cell? ⟨w4.heap.size, 0, none⟩ = some (.slice a4 fs.length fs.length) := celS hB5 (by simp)
  replace HA := (HA.below (ha _ _)).below hB5
  replace HX := (HX.below (ha _ _)).below hB5
  replace RX := (RX.below (ha _ _)).below hB5
  have T5 := Below.stepS (Below.stepS T4 (ha _ _)) hB5
  have l4 : w4.heap.size < w5.heap.size := lt_of_cell cX
  clear hB5 hr T4 hkq
  go_wp2_with fail
  refine (eqBatchS_same _ _ _ _ bs _ HG (HW.below T5) hbm).mono ?_
  rintro r w6 ⟨rfl, hB6⟩
  replace cA := celS hB6 cA
  replace cX := celS hB6 cX
  replace HA := HA.below hB6
  replace HX := HX.below hB6
  replace RX := RX.below hB6
  have T6 := Below.stepS T5 hB6
  have hsg6 := rd_below hsg hB6
  have l6 := hB6.size
  clear hB6 HG hsg T5
  go_wp2_with fail
  go_region_held3 (fun w' => w'.cell? ⟨w4.heap.size, 0, none⟩ = some (.slice a4 fs.length fs.length) ∧ w'.cell? ⟨w.heap.size, 0, none⟩ = some (.slice a fs.length c))
    (first | exact kk | go_keep)
    (first
      | (go_at_call 7; refine (toDisk_any _ _ _ _ ?_ hlen).mono ?_; exact HA.below (Below.refl _ _).drew; rintro r w7 ⟨a7, rfl, H7, -, hB7⟩; have kk := twoS hB7 (N := w4.heap.size) (M := w.heap.size) (v0 := .slice a4 fs.length fs.length) (v1 := .slice a fs.length c) (by first | exact kk | simp [cX, cA]))
      | (go_at_call 9; refine (eqDisk_same _ _ _ _ fs _ ?_ ?_ hl).mono ?_; exact (HX.below (Below.refl _ _).drew).below hB7; exact H7; rintro r w8 ⟨rfl, hB8⟩; have kk := twoS hB8 (N := w4.heap.size) (M := w.heap.size) (v0 := .slice a4 fs.length fs.length) (v1 := .slice a fs.length c) kk))
  have D8 : Below w6.heap.size w6 w8 := (((Below.refl w6.heap.size w6).drew).trans (hB7.mono (by simp))).trans (hB8.mono (by have := hB7.size; simpa using this))
  replace cA := celS D8 cA
  replace cX := celS D8 cX
  replace HA := HA.below D8
  replace RX := RX.below D8
  have hsg8 := rd_below hsg6 D8
  have T8 := Below.stepS T6 D8
  have l8 := D8.size
  have lT8 := T8.size
  clear D8 hB7 hB8 H7 kk HX hsg6 T6
  go_wp2_with fail
  refine (markDisk_any _ _ _ w3.heap.size 1 _ RX (by omega) (by omega) lT8).mono ?_
  rintro r w9 ⟨rfl, -, -, hB9, hO9⟩
  have hfar : ∀ b, w4.heap.size + 1 ≤ b → b < w8.heap.size → w9.heap[b]? = w8.heap[b]? := fun b h1 h2 => hO9 b h2 (fun h => by have := lX b h; omega)
  have HG9 : Bats w9 ag bs := by
    have := bats_move (w' := w9) hsg8 (fun b h1 h2 => hfar b (by simpa using h1) h2)
    rwa [hqg] at this
  have RG9 : LogRow w9 (w4.heap.size + 1) ag qg := by
    have h := LogRow.of_rd hsg8
    simp only [World.size_alloc] at h
    exact h.of_block (fun b hb => hfar b (h.lt hb).1 (h.lt hb).2)
  replace cA := (hB9.cell (p := ⟨w.heap.size, 0, none⟩) l0).trans cA
  replace HA := HA.of_block (fun b h => hB9.block b (by have := lA b h; omega))
  have T9 := T8.trans hB9
  have hk : ¬ (((1 + 2 * fs.length : Nat) : Int) < 0) := by omega
  have l9 := hB9.size
  clear hB9 hO9 RX cX hfar hsg8 T8
  go_wp2_with fail
  refine (eqBatchS_same _ _ _ _ bs _ HG9 (HW.below T9) hbm).mono ?_
  rintro r w10 ⟨rfl, hB10⟩
  replace cA := celS hB10 cA
  replace HA := HA.below hB10
  have RG := RG9.below hB10
  have T10 := Below.stepS T9 hB10
  have l10 := hB10.size
  have hmk := markBatchS_row ag cg (w4.heap.size + 1) 1 qg w10 RG h8 hk9 (by omega) hq4
  rw [hlg] at hmk
  clear hB10 HG9 RG9 hk T9
  go_wp2_with fail
  refine hmk.mono ?_
  rintro r w11 ⟨rfl, HM, hB11, -⟩
  replace cA := (hB11.cell (p := ⟨w.heap.size, 0, none⟩) (by simp; omega)).trans cA
  replace HA := HA.of_block (fun b h => hB11.block b (by have := lA b h; omega))
  have T11 : Below w3.heap.size w3 w11 := T10.trans (hB11.mono (by omega))
  obtain ⟨K, hK⟩ : ∃ K, kTo qg 1 = K := ⟨_, rfl⟩
  have hm : ((K : Int) != (K : Int)) = false := by simp
  have hp : ¬ ((K : Int) < 0) := by omega
  have hh := fun (u : World) (hu : Bats u ag (markQs qg 1)) => heldBatchS_any ag cg 1 qg u hu (by omega) hk9 hq4
  rw [hlg, hK] at hh
  have HH : Hid (∀ (u : World), Bats u ag (markQs qg 1) → Calls Tryd.prog 14 #[.slice ag bs.length cg, .int .i64 ((1 : Nat) : Int)] u fun r w' => r = .returned (.int .i64 (K : Int)) ∧ Below u.heap.size u w') := hh
  rw [hK]
  clear hB11 hmk hh hk9 hK RG T10
  go_wp2_with fail
  refine (HH.out _ HM).mono ?_
  rintro r w12 ⟨rfl, hB12⟩
  replace cA := celS hB12 cA
  replace HA := HA.below hB12
  replace HM := HM.below hB12
  have T12 := Below.stepS T11 hB12
  clear hB12 T11
  go_wp2_with fail
  refine (toDisk_any _ _ _ _ HA hlen).mono ?_
  rintro r w13 ⟨a13, rfl, H13, -, hB13⟩
  replace HM := HM.below hB13
  have T13 := Below.stepS T12 hB13
  have hTb13 : TabAt w13 := hTab.below (HB3.out.trans (T13.mono HB3.out.size)) hw0
  clear hB13 HA cA T12
  go_wp2_with fail
  refine (HI.out _ _ _ hTb13 H13).mono ?_
  intro r w14 hr
  obtain ⟨qh, ah, ch, rfl, -, hqh, hsh⟩ := hr.form
  have HHs : Bats w14 ah bs := by have := rd_bats hsh; rwa [hqh] at this
  replace HM := HM.below hsh.bel
  have T14 := Below.stepS T13 hsh.bel
  clear hr hsh HI hTb13 H13 T13
  go_wp2_with fail
  refine (eqBatchS_same _ _ _ _ bs _ HHs (HW.below T14) hbm).mono ?_
  rintro r w15 ⟨rfl, hB15⟩
  replace HM := HM.below hB15
  have T15 := Below.stepS T14 hB15
  clear hB15 HHs HW T14
  go_wp2_with fail
  refine (HH.out _ HM).mono ?_
  rintro r w16 ⟨rfl, hB16⟩
  have T16 := Below.stepS T15 hB16
  have BE : Below w.heap.size w w16 := HB3.out.trans (T16.mono HB3.out.size)
  clear hB16 HM
  go_wp2
  go_ret
  exact ⟨rfl, BE⟩

theorem survOf_len (fs : List Fl) (k : Int) : (survOf fs k).length ≤ 300 := by
  unfold survOf
  split
  · rename_i h
    cases hf : fs[k.toNat]? with
    | none => simp
    | some f =>
      have hok := okF_parts ((goodD_t (inF_t h).1).2.2 f (List.mem_of_getElem? hf))
      have hr := readR_len (f.bytes.extract 0 f.syn.toNat).data.toList ((f.bytes.extract 0 f.syn.toNat).data.toList.length + 1) none 0 (Nat.zero_le _)
      have hz : (f.bytes.extract 0 f.syn.toNat).data.toList.length ≤ 400 := by rw [size_len, ByteArray.size_extract]; omega
      simp only
      unfold readL
      omega
  · simp

theorem lawSurv_any (fs : List Fl) (file : Int) (a : Option Addr) (c : Nat) (w : World) (hs : Fls w a fs) (hl : fs.length ≤ maxLen) (hTab : TabAt w) :
    Calls Tryd.prog 4 #[.agg #[.slice a fs.length c], .int .i64 file] w fun r w' => r = .returned (.bool true) ∧ Below w.heap.size w w' :=
  lawSurv_walk fs (survOf fs file) (inF fs file) file a c w hs hl (survOf_len fs file) hTab (fun w a c h => specSurv_any a c fs file w h hl) (fun w a c hT h => implSurv_any a c fs file w h hl hT)

end Go.Proofs.YtopndglgbollfaaDoor
