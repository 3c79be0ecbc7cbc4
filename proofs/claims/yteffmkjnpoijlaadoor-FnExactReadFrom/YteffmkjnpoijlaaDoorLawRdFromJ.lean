/-
  The walk of the law FnExactAllBatches: at every store it answers true and leaves what was there as it was, where the sum's table is laid.
  The walk of the law FnExactReadFrom: at every store and two numbers it answers true and leaves what was there as it was, where the sum's table is laid.
-/
import Derived.Test.YteffmkjnpoijlaaDoorSgMkJ
import Derived.Test.YteffmkjnpoijlaaDoorOpenStJ
import Derived.Test.YteffmkjnpoijlaaDoorMarkLog3J
import Derived.Deep.RegionHeld3
import Derived.Test.YteffmkjnpoijlaaDoorRfSpecJ
namespace Go.Proofs.YteffmkjnpoijlaaDoor
open Go.RowKit

theorem celT {w w' : World} {b o : Nat} {v : Value} (hb : Below w.heap.size w w') (h : w.cell? ⟨b, o, none⟩ = some v) : w'.cell? ⟨b, o, none⟩ = some v := (hb.cell (p := ⟨b, o, none⟩) (lt_of_cell h)).trans h

theorem fourT {W w1 : World} {N M : Nat} {v0 v1 v2 v3 : Value} (hB : Below W.heap.size W w1) (h : W.cell? ⟨N, 0, none⟩ = some v0 ∧ W.cell? ⟨N, 1, none⟩ = some v1 ∧ W.cell? ⟨M, 0, none⟩ = some v2 ∧ W.cell? ⟨M, 1, none⟩ = some v3) : w1.cell? ⟨N, 0, none⟩ = some v0 ∧ w1.cell? ⟨N, 1, none⟩ = some v1 ∧ w1.cell? ⟨M, 0, none⟩ = some v2 ∧ w1.cell? ⟨M, 1, none⟩ = some v3 :=
  ⟨celT hB h.1, celT hB h.2.1, celT hB h.2.2.1, celT hB h.2.2.2⟩

/-- Batches, and whether: what several functions answer. -/
def PrAns (w : World) (bs : List Bt) (ok : Bool) (r : Ending) (w' : World) : Prop :=
  ∃ qs a c, r = .returned (.tuple #[.slice a bs.length c, .bool ok]) ∧ qs.length = bs.length ∧ qsB qs = bs ∧ RdSt w w' (.slice a qs.length c) qs

theorem AbAns.pr {w w' : World} {gs : List Sg} {x : Int} {r : Ending} (h : AbAns w gs x r w') : PrAns w (if stG gs x = true then stAll gs else []) (stG gs x) r w' := by
  obtain ⟨qs, a, c, rfl, hq, hst⟩ := h
  exact ⟨qs, a, c, by rw [← hq, qsB_len], by rw [← hq, qsB_len], hq, hst⟩

theorem stAll_len {gs : List Sg} (h8 : gs.length ≤ 8) (hf : ∀ g, g ∈ gs → g.fine = true) : (stAll gs).length ≤ 9000 := by
  have h : ∀ (l : List Sg), (∀ g, g ∈ l → g.fine = true) → (stAll l).length ≤ 1000 * l.length := fun l => by
    induction l with
    | nil => intro _; simp [stAll]
    | cons g r ih =>
      intro hh
      have h1 := ih (fun g hg => hh g (List.mem_cons_of_mem _ hg))
      have h2 := Sg.short (hh g List.mem_cons_self)
      have e : stAll (g :: r) = g.l ++ stAll r := rfl
      rw [e, List.length_append, List.length_cons]
      omega
  have := h gs hf
  omega

end Go.Proofs.YteffmkjnpoijlaaDoor

namespace Go.Proofs.YteffmkjnpoijlaaDoor
open Go.RowKit

theorem RfAns.pr {w w' : World} {bs : List Bt} {ok : Bool} {r : Ending} (h : RfAns w bs ok r w') : PrAns w bs ok r w' := by
  obtain ⟨qs, a, c, rfl, hq, hst⟩ := h
  exact ⟨qs, a, c, by rw [← hq, qsB_len], by rw [← hq, qsB_len], hq, hst⟩

set_option maxRecDepth 100000 in
set_option maxHeartbeats 8000000 in
theorem lawReadFrom_walk (gs : List Sg) (bs : List Bt) (ok : Bool) (x : Int) (off many : Int) (a : Option Addr) (c : Nat) (w : World) (hs : Sgs w a gs) (hl : gs.length ≤ maxLen) (hb : bs.length ≤ 9000) (hTab : TabAt w)
    (HS0 : gs.length ≤ 1048576 → (∀ g, g ∈ gs → g.bytes.size ≤ 1048576) → ∀ (w : World) (a : Option Addr) (c : Nat), Sgs w a gs → Calls Tryd.prog 6 #[.agg #[.slice a gs.length c, .int .i64 x], .int .i64 off, .int .i64 many] w fun r w' => PrAns w bs ok r w')
    (HI0 : ∀ (w : World) (a : Option Addr) (c : Nat), gs.length ≤ c → TabAt w → Sgs w a gs → Calls Tryd.prog 8 #[.agg #[.slice a gs.length c, .int .i64 x], .int .i64 off, .int .i64 many] w fun r w' => PrAns w bs ok r w') :
    Calls Tryd.prog 3 #[.agg #[.slice a gs.length c, .int .i64 x], .int .i64 off, .int .i64 many] w fun r w' => r = .returned (.bool true) ∧ Below w.heap.size w w' := by
  have hw0 : 0 < w.heap.size := lt_of_cell (hTab 0 (by omega))
  have ha : ∀ (u : World) o, Below u.heap.size u (u.alloc o) := fun u o => (Below.refl _ _).alloc (Nat.le_refl _) o
  have hT : (ok != ok) = false := by cases ok <;> rfl
  have hbm : bs.length ≤ maxLen := by unfold maxLen; omega
  have HI : Hid (∀ (w : World) (a : Option Addr) (c : Nat), gs.length ≤ c → TabAt w → Sgs w a gs → Calls Tryd.prog 8 #[.agg #[.slice a gs.length c, .int .i64 x], .int .i64 off, .int .i64 many] w fun r w' => PrAns w bs ok r w') := HI0
  clear HI0
  have hb0 : Below w.heap.size w (w.alloc (.cells #[.slice a gs.length c, .int .i64 x] 24)) := (Below.refl _ _).alloc (Nat.le_refl _) _
  have hs0 := hs.below hb0
  by_cases hn : szSt gs 1048576 < 0
  · clear HS0
    go_enter Tryd.func3, Tryd.ntmps3
    go_wp2_with fail
    refine (szStore_any _ _ _ _ _ _ hs0 hl (by omega) (by omega)).mono ?_
    rintro r w1 ⟨z, rfl, hz, hB1⟩
    have hzn : z < 0 := by omega
    go_wp2
    go_ret
    exact ⟨rfl, Below.stepS hb0 hB1⟩
  have hbd := szSt_bound (gs := gs) (left := 1048576) (by omega)
  have hlen : gs.length ≤ 1048576 := by omega
  have HID : Hid (∀ g, g ∈ gs → g.idx.length ≤ 1048576) := fun g hg => by have := (hbd.2 g hg).2; omega
  have HS : Hid (∀ (w : World) (a : Option Addr) (c : Nat), Sgs w a gs → Calls Tryd.prog 6 #[.agg #[.slice a gs.length c, .int .i64 x], .int .i64 off, .int .i64 many] w fun r w' => PrAns w bs ok r w') := HS0 hlen (fun g hg => by have := (hbd.2 g hg).1; omega)
  have hkS := kSt_bound (gs := gs) (by omega)
  have HAW : Hid (∀ u, Below w.heap.size w u → Sgs u a gs) := fun u hu => hs.below hu
  clear HS0 hbd hs
  go_enter Tryd.func3, Tryd.ntmps3
  go_wp2_with fail
  refine (szStore_any _ _ _ _ _ _ hs0 hl (by omega) (by omega)).mono ?_
  rintro r w1 ⟨z, rfl, hz, hB1⟩
  have hzn : ¬ z < 0 := by omega
  have cA : w1.cell? ⟨w.heap.size, 0, none⟩ = some (.slice a gs.length c) := celT hB1 (by simp)
  have cB : w1.cell? ⟨w.heap.size, 1, none⟩ = some (.int .i64 x) := celT hB1 (by simp)
  have BB := Below.stepS hb0 hB1
  clear hB1 hs0 hb0 hz
  go_wp2_with fail
  refine (toStore_any _ _ _ _ _ (HAW.out _ BB) hlen HID.out).mono ?_
  rintro r w2 ⟨a2, rfl, hB2, H2, -⟩
  replace cA := celT hB2 cA
  replace cB := celT hB2 cB
  replace BB := Below.stepS BB hB2
  clear hB2
  go_wp2_with fail
  refine (HS.out _ _ _ H2).mono ?_
  intro r w3 hr
  obtain ⟨qw, aw, cw, rfl, hlw, hqw, hsw⟩ := hr
  have hB3 := hsw.bel
  have HW : Bats w3 aw bs := by have := rd_bats hsw; rwa [hqw] at this
  replace cA := celT hB3 cA
  replace cB := celT hB3 cB
  replace BB := Below.stepS BB hB3
  have l0 : w.heap.size < w3.heap.size := lt_of_cell cA
  have HB3 : Hid (Below w.heap.size w w3) := BB
  clear hB3 H2 HS hsw hlw hqw
  go_wp2_with fail
  refine (toStore_any _ _ _ _ _ (HAW.out _ HB3.out) hlen HID.out).mono ?_
  rintro r w4 ⟨a4, rfl, hB4, HX, RX⟩
  have cA4 := celT hB4 cA
  have cB4 := celT hB4 cB
  replace cA := fun o => celT (ha w4 o) cA4
  replace cB := fun o => celT (ha w4 o) cB4
  have T4 := hB4
  have l3 : w3.heap.size ≤ w4.heap.size := hB4.size
  obtain ⟨N, rfl, hN, SW⟩ := RX.toW
  have hNl := SW.lt
  have hTb : ∀ o, TabAt (w4.alloc o) := fun o => hTab.below (HB3.out.trans ((T4.trans ((ha w4 o).mono T4.size)).mono HB3.out.size)) hw0
  clear hB4 cA4 cB4 BB RX
  go_wp2_with fail
  refine (HI.out _ _ _ (Nat.le_refl _) (hTb _) (HX.below (ha _ _))).mono ?_
  intro r w5 hr
  obtain ⟨qg, ag, cg, rfl, hlg, hqg, hsg⟩ := hr
  have hB5 := hsg.bel
  have HG : Bats w5 ag bs := by have := rd_bats hsg; rwa [hqg] at this
  have h8 : ∀ q, q ∈ qg → q.b.recs.length ≤ 8 := fun q hq => (hsg.recs q hq).2.2
  have hkq := kTo_le qg 1 h8
  have hk9 : kTo qg 1 ≤ 1000000000 := by omega
  have hq4 : qg.length ≤ 1000000 := by omega
  replace cA := celT hB5 (cA _)
  replace cB := celT hB5 (cB _)
  have cX : w5.cell? ⟨w4.heap.size, 0, none⟩ = some (.slice (some ⟨N, 0, none⟩) gs.length gs.length) := celT hB5 (by simp)
  have cY : w5.cell? ⟨w4.heap.size, 1, none⟩ = some (.int .i64 x) := celT hB5 (by simp)
  replace HX := (HX.below (ha _ _)).below hB5
  replace SW := (SW.below (ha _ _)).below hB5
  have T5 := Below.stepS (Below.stepS T4 (ha _ _)) hB5
  have l4 : w4.heap.size < w5.heap.size := lt_of_cell cX
  clear hB5 T4 hkq
  go_wp2_with fail
  refine (eqBatchS_same _ _ _ _ bs _ HG (HW.below T5) hbm).mono ?_
  rintro r w6 ⟨rfl, hB6⟩
  replace cA := celT hB6 cA
  replace cB := celT hB6 cB
  replace cX := celT hB6 cX
  replace cY := celT hB6 cY
  replace HX := HX.below hB6
  replace SW := SW.below hB6
  have T6 := Below.stepS T5 hB6
  have hsg6 := rd_below hsg hB6
  have l6 := hB6.size
  have HA6 := HAW.out _ (HB3.out.trans (T6.mono HB3.out.size))
  clear hB6 HG hsg T5
  go_wp2_with fail
  have kk : w6.drew.cell? ⟨w4.heap.size, 0, none⟩ = some (.slice (some ⟨N, 0, none⟩) gs.length gs.length) ∧ w6.drew.cell? ⟨w4.heap.size, 1, none⟩ = some (.int .i64 x) ∧ w6.drew.cell? ⟨w.heap.size, 0, none⟩ = some (.slice a gs.length c) ∧ w6.drew.cell? ⟨w.heap.size, 1, none⟩ = some (.int .i64 x) := ⟨cX, cY, cA, cB⟩
  go_region_held3 (fun w' => w'.cell? ⟨w4.heap.size, 0, none⟩ = some (.slice (some ⟨N, 0, none⟩) gs.length gs.length) ∧ w'.cell? ⟨w4.heap.size, 1, none⟩ = some (.int .i64 x) ∧ w'.cell? ⟨w.heap.size, 0, none⟩ = some (.slice a gs.length c) ∧ w'.cell? ⟨w.heap.size, 1, none⟩ = some (.int .i64 x))
    (first | exact kk | go_keep)
    (first
      | (go_at_call 7; refine (toStore_any _ _ _ _ _ ?_ hlen HID.out).mono ?_; exact HA6.below (Below.refl _ _).drew; rintro r w7 ⟨a7, rfl, hB7, H7, -⟩; have kk := fourT hB7 kk)
      | (go_at_call 10; refine (eqStore_same _ _ _ _ gs _ _ ?_ ?_ hl).mono ?_; exact (HX.below (Below.refl _ _).drew).below hB7; exact H7; rintro r w8 ⟨rfl, hB8⟩; have kk := fourT hB8 kk))
  have D8 : Below w6.heap.size w6 w8 := (((Below.refl w6.heap.size w6).drew).trans (hB7.mono (by simp))).trans (hB8.mono (by have := hB7.size; simpa using this))
  replace cA := celT D8 cA
  replace cB := celT D8 cB
  replace cX := celT D8 cX
  replace cY := celT D8 cY
  replace SW := SW.below D8
  have hsg8 := rd_below hsg6 D8
  have T8 := Below.stepS T6 D8
  have l8 := D8.size
  have lT8 := T8.size
  clear D8 hB7 hB8 H7 kk HX hsg6 T6 HA6
  go_wp2_with fail
  refine (markStore_keep N w4.heap.size _ _ gs _ SW (by omega) (by omega)).mono ?_
  rintro r w9 ⟨rfl, hWi⟩
  have hfar : ∀ b, w4.heap.size + 1 ≤ b → b < w8.heap.size → w9.heap[b]? = w8.heap[b]? := fun b h1 h2 => hWi.out b (by omega) h2
  have HG9 : Bats w9 ag bs := by
    have := rd_bats_in (u := w9) hsg8 (fun b h1 h2 => hfar b (by simpa using h1) h2)
    rwa [hqg] at this
  have RG9 : LogRow w9 (w4.heap.size + 1) ag qg := by
    have h := LogRow.of_rd hsg8
    simp only [World.size_alloc] at h
    exact h.of_block (fun b hb => hfar b (h.lt hb).1 (h.lt hb).2)
  have hB9 : Below w3.heap.size w8 w9 := hWi.bel.mono hN
  replace cA := (hB9.cell (p := ⟨w.heap.size, 0, none⟩) l0).trans cA
  replace cB := (hB9.cell (p := ⟨w.heap.size, 1, none⟩) l0).trans cB
  have T9 := T8.trans hB9
  have hk : ¬ (((kSg gs 1 : Nat) : Int) < 0) := by omega
  have l9 := hB9.size
  clear hB9 hWi SW cX cY hfar hsg8 T8 hkS
  go_wp2_with fail
  refine (eqBatchS_same _ _ _ _ bs _ HG9 (HW.below T9) hbm).mono ?_
  rintro r w10 ⟨rfl, hB10⟩
  replace cA := celT hB10 cA
  replace cB := celT hB10 cB
  have RG := RG9.below hB10
  have T10 := Below.stepS T9 hB10
  have l10 := hB10.size
  have hmk := markBatchS_row ag cg (w4.heap.size + 1) 1 qg w10 RG h8 hk9 (by omega) hq4
  rw [hlg] at hmk
  clear hB10 HG9 RG9 hk T9
  go_wp2_with fail
  refine hmk.mono ?_
  rintro r w11 ⟨rfl, HM, hB11, -⟩
  replace cA := (hB11.cell (p := ⟨w.heap.size, 0, none⟩) (by simp; omega)).trans cA
  replace cB := (hB11.cell (p := ⟨w.heap.size, 1, none⟩) (by simp; omega)).trans cB
  have T11 : Below w3.heap.size w3 w11 := T10.trans (hB11.mono (by omega))
  obtain ⟨K, hK⟩ : ∃ K, kTo qg 1 = K := ⟨_, rfl⟩
  have hm : ((K : Int) != (K : Int)) = false := by simp
  have hp : ¬ ((K : Int) < 0) := by omega
  have hh := fun (u : World) (hu : Bats u ag (markQs qg 1)) => heldBatchS_any ag cg 1 qg u hu (by omega) hk9 hq4
  rw [hlg, hK] at hh
  have HH : Hid (∀ (u : World), Bats u ag (markQs qg 1) → Calls Tryd.prog 13 #[.slice ag bs.length cg, .int .i64 ((1 : Nat) : Int)] u fun r w' => r = .returned (.int .i64 (K : Int)) ∧ Below u.heap.size u w') := hh
  rw [hK]
  clear hB11 hmk hh hk9 hK RG T10
  go_wp2_with fail
  refine (HH.out _ HM).mono ?_
  rintro r w12 ⟨rfl, hB12⟩
  replace cA := celT hB12 cA
  replace cB := celT hB12 cB
  replace HM := HM.below hB12
  have T12 := Below.stepS T11 hB12
  have HA12 := HAW.out _ (HB3.out.trans (T12.mono HB3.out.size))
  clear hB12 T11
  go_wp2_with fail
  refine (toStore_any _ _ _ _ _ HA12 hlen HID.out).mono ?_
  rintro r w13 ⟨a13, rfl, hB13, H13, -⟩
  replace HM := HM.below hB13
  have T13 := Below.stepS T12 hB13
  have hTb13 : TabAt w13 := hTab.below (HB3.out.trans (T13.mono HB3.out.size)) hw0
  clear hB13 HA12 cA cB T12
  go_wp2_with fail
  refine (HI.out _ _ _ (Nat.le_refl _) hTb13 H13).mono ?_
  intro r w14 hr
  obtain ⟨qh, ah, ch, rfl, -, hqh, hsh⟩ := hr
  have HHs : Bats w14 ah bs := by have := rd_bats hsh; rwa [hqh] at this
  replace HM := HM.below hsh.bel
  have T14 := Below.stepS T13 hsh.bel
  clear hsh HI hTb13 H13 T13
  go_wp2_with fail
  refine (eqBatchS_same _ _ _ _ bs _ HHs (HW.below T14) hbm).mono ?_
  rintro r w15 ⟨rfl, hB15⟩
  replace HM := HM.below hB15
  have T15 := Below.stepS T14 hB15
  clear hB15 HHs HW T14
  go_wp2_with fail
  refine (HH.out _ HM).mono ?_
  rintro r w16 ⟨rfl, hB16⟩
  have T16 := Below.stepS T15 hB16
  have BE : Below w.heap.size w w16 := HB3.out.trans (T16.mono HB3.out.size)
  clear hB16 HM
  go_wp2
  go_ret
  exact ⟨rfl, BE⟩

theorem lawRdFrom_any (gs : List Sg) (x off many : Int) (a : Option Addr) (c : Nat) (w : World) (hs : Sgs w a gs) (hl : gs.length ≤ maxLen) (hTab : TabAt w) :
    Calls Tryd.prog 3 #[.agg #[.slice a gs.length c, .int .i64 x], .int .i64 off, .int .i64 many] w fun r w' => r = .returned (.bool true) ∧ Below w.heap.size w w' := by
  by_cases h : stT gs x off = true ∧ (1 ≤ many ∧ many ≤ 20)
  · obtain ⟨ht, h1, h2⟩ := h
    have hth := (stT_there ht).1
    obtain ⟨k, g, hk⟩ := seek_is hth
    obtain ⟨j, p, -, hp, hr⟩ := seek_place hth hk
    obtain ⟨m, rfl⟩ := Int.eq_ofNat_of_zero_le (show 0 ≤ many by omega)
    refine lawReadFrom_walk gs ((behind off (restOf gs k j g)).take m) true x off m a c w hs hl ?_ hTab (fun q1 q2 w a c h => (specRf_yes gs a c x off m w h q1 q2 ht (by omega) (by omega) k j p g hk hp hr).mono fun r w' h => h.pr) (fun w a c hc hT h => (implRf_yes gs a c x off m w h hl hc hT ht (by omega) (by omega) k j p g hk hp hr).mono fun r w' h => h.pr)
    rw [List.length_take]
    omega
  · have hno : stT gs x off = false ∨ (¬ (1 ≤ many ∧ many ≤ 20)) := by
      cases ht : stT gs x off with
      | false => exact .inl rfl
      | true => exact .inr (fun hm => h ⟨ht, hm⟩)
    exact lawReadFrom_walk gs [] false x off many a c w hs hl (by simp) hTab (fun q1 q2 w a c h => (specRf_no gs a c x off many w h q1 q2 hno).mono fun r w' h => h.pr) (fun w a c _ hT h => (implRf_no gs a c x off many w h hl hT hno).mono fun r w' h => h.pr)

end Go.Proofs.YteffmkjnpoijlaaDoor
