/-
  One batch taken at a place, the specification's side: the contract of spec.l1Take where its bytes may be there.
-/
import Derived.Test.YtopndglgbollfaaDoorSpecTail2
import Derived.Deep.RegionLaw
namespace Go.Proofs.YtopndglgbollfaaDoor
open Go.RowKit

/-- By way of one statement: several like goals become one. -/
structure Box (A : Prop) : Prop where
  out : A
theorem through {A G : Prop} (h : Box A → G) (k : A) : G := h ⟨k⟩

/-- The number that some bytes of a text tell. -/
def vEx (s : ByteArray) (i j : Nat) : Nat := val (s.extract i j).data.toList

theorem l1Value_ex (s : ByteArray) (i j : Nat) (w : World) (h : j ≤ i + 3) :
    Calls Tryd.prog 48 #[.string (s.extract i j)] w fun e w' => e = .returned (.int .i64 (vEx s i j : Nat)) ∧ w' = w :=
  l1Value_any _ _ (by rw [ByteArray.size_extract]; omega)

theorem vEx_at {s : ByteArray} {n : Nat} (i m : Nat) {a b : Int} (ha : a = (i : Int) := by rfl) (hb : b = ((i + m : Nat) : Int) := by rfl) : vEx s ((n : Int) + a).toNat ((n : Int) + b).toNat = val (((s.data.toList.drop n).drop i).take m) := by
  subst ha hb
  have e1 : ((n : Int) + (i : Int)).toNat = n + i := by omega
  have e2 : ((n : Int) + ((i + m : Nat) : Int)).toNat = n + i + m := by omega
  unfold vEx
  rw [e1, e2, extract_toList, List.drop_drop, Nat.add_sub_cancel_left]

theorem nth11 {s : ByteArray} {n : Nat} (h : n + 11 < s.size) : (s.data.toList.drop n).getD 11 0 = s[n + 11]'h := by
  rw [List.getD_eq_getElem?_getD, List.getElem?_drop, List.getElem?_eq_getElem (by rw [size_len]; exact h)]; rfl

theorem undef_fold : Value.tuple #[] = undef := rfl

theorem good_parts {A1 A2 A3 A4 : Nat} {ss : List ByteArray} (h : Bt.good ⟨(A1 : Nat), (A2 : Nat), (A3 : Nat), (A4 : Nat), ss⟩ = true) : A1 ≤ 100000 ∧ A2 ≤ 1000 ∧ A3 ≤ 65535 ∧ A4 ≤ 65535 ∧ ss.length ≤ 8 ∧ ∀ s, s ∈ ss → s.size ≤ 20 := by
  simp only [Bt.good, Bool.and_eq_true, inB_t] at h
  obtain ⟨⟨⟨⟨⟨h0, h1⟩, h2⟩, h3⟩, h4⟩, h5⟩ := h
  refine ⟨by omega, by omega, by omega, by omega, by omega, fun s hs => ?_⟩
  have := List.all_eq_true.1 h0 s hs
  simpa [shortB] using this

attribute [local go_sem ↓] Go.wp_at_zero Go.wp_at_succ

set_option maxRecDepth 100000 in
set_option maxHeartbeats 4000000 in
theorem l1Take_main (s : ByteArray) (n : Nat) (w : World) (hs : s.size ≤ 2000000) (hn : n ≤ s.size) (h14 : 14 ≤ s.size - n) (hL : lenOf (s.data.toList.drop n) ≤ s.size - n) :
    Calls Tryd.prog 34 #[.string s, .int .i64 n] w fun r w' => ∃ b a c z, r = .returned (.tuple #[.agg #[.int .i64 b.off, .int .i64 b.ep, .int .i64 b.pr, .int .i64 b.sq, .slice a b.recs.length c], .int .i64 z]) ∧ TookS s.data.toList n w.heap.size w' b a c z ∧ Below w.heap.size w w' := by
  have hb0 : Below w.heap.size w (w.alloc (.cells #[.int .i64 0, .int .i64 0, .int .i64 0, .int .i64 0, .slice none 0 0] 60)) := (Below.refl _ _).alloc (Nat.le_refl _) _
  have hlt := lenOf_lt (s.data.toList.drop n)
  have h14i : ¬ ((s.size : Int) - n < 14) := by omega
  have hx2 : (s.extract n (n + 2)).size ≤ 3 := by rw [ByteArray.size_extract]; omega
  have HV : Hid (2 + (val (s.extract n (n + 2)).data.toList : Nat) = lenOf (s.data.toList.drop n)) := by
    show _ = _
    rw [extract_toList, Nat.add_sub_cancel_left]; rfl
  have o2 : (0 : Int) ≤ (n : Int) + 2 := by omega
  have o5 : (0 : Int) ≤ (n : Int) + 5 := by omega
  have o7 : (0 : Int) ≤ (n : Int) + 7 := by omega
  have o9 : (0 : Int) ≤ (n : Int) + 9 := by omega
  have p2 : (n : Int) + 2 ≤ (n : Int) + 5 := by omega
  have p5 : (n : Int) + 5 ≤ (n : Int) + 7 := by omega
  have p7 : (n : Int) + 7 ≤ (n : Int) + 9 := by omega
  have p9 : (n : Int) + 9 ≤ (n : Int) + 11 := by omega
  have i2 : (n : Int) + 2 ≤ (s.size : Int) := by omega
  have i5 : (n : Int) + 5 ≤ (s.size : Int) := by omega
  have i7 : (n : Int) + 7 ≤ (s.size : Int) := by omega
  have i9 : (n : Int) + 9 ≤ (s.size : Int) := by omega
  have i11 : (n : Int) + 11 ≤ (s.size : Int) := by omega
  have i12 : (n : Int) + 11 < (s.size : Int) := by omega
  have j2 : IntKind.i64.wrap ((n : Int) + 2) = (n : Int) + 2 := by rw [IntKind.wrap_i64]; omega
  have j5 : IntKind.i64.wrap ((n : Int) + 5) = (n : Int) + 5 := by rw [IntKind.wrap_i64]; omega
  have j7 : IntKind.i64.wrap ((n : Int) + 7) = (n : Int) + 7 := by rw [IntKind.wrap_i64]; omega
  have j9 : IntKind.i64.wrap ((n : Int) + 9) = (n : Int) + 9 := by rw [IntKind.wrap_i64]; omega
  have j11 : IntKind.i64.wrap ((n : Int) + 11) = (n : Int) + 11 := by rw [IntKind.wrap_i64]; omega
  go_enter Tryd.func34, Tryd.ntmps34
  go_wp2_with fail
  refine (l1Value_any _ _ hx2).mono ?_
  rintro r w1 ⟨rfl, rfl⟩
  have hv := HV.out
  generalize val (s.extract n (n + 2)).data.toList = V at *
  generalize hLL : lenOf (s.data.toList.drop n) = L at *
  have HLL : Hid (lenOf (s.data.toList.drop n) = L) := hLL
  have hVL : (n : Int) + 2 + (V : Int) = ((n + L : Nat) : Int) := by omega
  have hend : ((n + L : Nat) : Int) ≤ (s.size : Int) := by omega
  clear HV hv hLL
  go_wp2_with fail
  have HF : Hid (s.size ≤ 2000000 ∧ n ≤ s.size ∧ 14 ≤ s.size - n ∧ L ≤ s.size - n ∧ L < 65538) := ⟨hs, hn, h14, hL, hlt⟩
  clear hb0 h14 hL hlt h14i hx2 hs hn hVL
  refine' through (A := _) (fun key => ?main) ?hkey
  case main =>
    go_region_held3 (fun _ => True) (trivial) ((go_at_call 48; refine (l1Value_ex _ _ _ _ (by omega)).mono ?_; rintro r w2 ⟨rfl, rfl⟩))
    all_goals exact key.out
  case hkey =>
    obtain ⟨hs, hn, h14, hL, hlt⟩ := HF.out
    clear HF
    have HA1 : Hid (vEx s ((n : Int) + 2).toNat ((n : Int) + 5).toNat = val (((s.data.toList.drop n).drop 2).take 3)) := vEx_at 2 3
    have HA2 : Hid (vEx s ((n : Int) + 5).toNat ((n : Int) + 7).toNat = val (((s.data.toList.drop n).drop 5).take 2)) := vEx_at 5 2
    have HA3 : Hid (vEx s ((n : Int) + 7).toNat ((n : Int) + 9).toNat = val (((s.data.toList.drop n).drop 7).take 2)) := vEx_at 7 2
    have HA4 : Hid (vEx s ((n : Int) + 9).toNat ((n : Int) + 11).toNat = val (((s.data.toList.drop n).drop 9).take 2)) := vEx_at 9 2
    generalize vEx s ((n : Int) + 2).toNat ((n : Int) + 5).toNat = A1 at *
    generalize vEx s ((n : Int) + 5).toNat ((n : Int) + 7).toNat = A2 at *
    generalize vEx s ((n : Int) + 7).toNat ((n : Int) + 9).toNat = A3 at *
    generalize vEx s ((n : Int) + 9).toNat ((n : Int) + 11).toNat = A4 at *
    have hst0 := tk_start w A1 A2 A3 A4
    generalize (((w.alloc (.cells #[.int .i64 0, .int .i64 0, .int .i64 0, .int .i64 0, .slice none 0 0] 60)).alloc (.cells #[.int .i64 (A1 : Int), .int .i64 (A2 : Int), .int .i64 (A3 : Int), .int .i64 (A4 : Int), .slice none 0 0] 60)).drew) = w1 at *
    have h11 : n + 11 < s.size := by omega
    have hb11 := (s[n + 11]'h11).toNat_lt
    clear o2 o5 o7 o9 p2 p5 p7 p9 i2 i5 i7 i9 i11 j2 j5 j7 j9
    go_wp2_with fail
    have hL' : n + L ≤ s.size := by omega
    go_loopw [8, 9] (fun kv nv wr => ∃ (q r : Nat) (ss : List ByteArray) (v : Value), kv = .int .i64 ((n + q : Nat) : Int) ∧ nv = .int .i64 (r : Int) ∧ 12 ≤ q ∧ (q ≤ L ∨ q = 12) ∧ r ≤ 255 ∧ ss.length + r ≤ 255 ∧ LeftT s n L (s[n + 11]'h11).toNat q r ss ∧ TkSt w A1 A2 A3 A4 wr v ss) (fun _ nv _ => (intOf nv).toNat)
    case atStart => exact ⟨12, (s[n + 11]'h11).toNat, [], _, by go_num, by go_num, Nat.le_refl _, .inr rfl, by omega, by simp; omega, by simp [LeftT], hst0⟩
    case round =>
      clear hst0
      obtain ⟨q, r, ss, v, rfl, rfl, hq12, hqL, hr, hsr, hleft, hst⟩ := hrel
      have HT : Hid (LeftT s n L (s[n + 11]'h11).toNat q r ss) := hleft
      clear hleft
      have HS := hst
      obtain ⟨hres, hbat, hown, hbel⟩ := hst
      have HS : Hid (TkSt w A1 A2 A3 A4 wr v ss) := HS
      obtain ⟨z0, z1, z2, z3, z4⟩ := batV_cells hres
      have zf := hres.frozen
      obtain ⟨y0, y1, y2, y3, y4⟩ := batV_cells hbat
      have yf := hbat.frozen
      obtain ⟨ra, rc, hv⟩ := owns_form hown
      have lt0 := hres.lt
      have lt1 := hbat.lt
      clear hres hbat
      subst hv
      generalize hkk : n + q = kk at *
      have HK : Hid (n + q = kk) := hkk
      cases r with
      | succ r =>
        by_cases hend' : L ≤ q
        · have HN : Hid (specTake s.data.toList n = none) := by
            show _ = _
            unfold specTake
            rw [spec_none (by rw [HLL.out, nth11 h11]; exact left_end HT.out hL' hend')]
            simp
          have hge : (n : Int) + (L : Int) ≤ (kk : Int) := by omega
          clear HT hown hqL hend' hkk HS
          go_wp2_with fail
          exact bodyPost_ret (v := .tuple #[.agg #[.int .i64 0, .int .i64 0, .int .i64 0, .int .i64 0, .slice none 0 0], .int .i64 0]) (by simp [results, Tryd.results34, go_sem, z0, z1, z2, z3, z4]) rfl ⟨⟨0, 0, 0, 0, []⟩, none, 0, 0, rfl, .inr ⟨rfl, rfl, rfl, rfl, HN.out⟩, ((((hbel.setCell (Nat.le_refl _) _).setCell (Nat.le_refl _) _).setCell (Nat.le_refl _) _).setCell (Nat.le_refl _) _).setCell (Nat.le_refl _) _⟩
        · have hql : q < L := by omega
          have hks : kk < s.size := by omega
          have hyb := (s[kk]'hks).toNat_lt
          have hlt' : ¬ ((n : Int) + (L : Int) ≤ (kk : Int)) := by omega
          by_cases hbig : L - q - 1 < (s[kk]'hks).toNat
          · have HN : Hid (specTake s.data.toList n = none) := by
              show _ = _
              unfold specTake
              rw [spec_none (by rw [HLL.out, nth11 h11]; exact left_wide' HK.out HT.out hL' hql hks hbig)]
              simp
            have hb1 : (n : Int) + (L : Int) - (kk : Int) - 1 < ((s[kk]'hks).toNat : Int) := by omega
            clear HT hown hqL hend' hkk HS hbig
            go_wp2_with fail
            exact bodyPost_ret (v := .tuple #[.agg #[.int .i64 0, .int .i64 0, .int .i64 0, .int .i64 0, .slice none 0 0], .int .i64 0]) (by simp [results, Tryd.results34, go_sem, z0, z1, z2, z3, z4]) rfl ⟨⟨0, 0, 0, 0, []⟩, none, 0, 0, rfl, .inr ⟨rfl, rfl, rfl, rfl, HN.out⟩, ((((hbel.setCell (Nat.le_refl _) _).setCell (Nat.le_refl _) _).setCell (Nat.le_refl _) _).setCell (Nat.le_refl _) _).setCell (Nat.le_refl _) _⟩
          · have hb1 : ¬ ((n : Int) + (L : Int) - (kk : Int) - 1 < ((s[kk]'hks).toNat : Int)) := by omega
            have HX : Hid (LeftT s n L (s[n + 11]'h11).toNat (q + 1 + (s[kk]'hks).toNat) r (ss ++ [s.extract (kk + 1) (kk + 1 + (s[kk]'hks).toNat)])) := left_next' HK.out HT.out hL' hql hks (by omega)
            have HQ : Hid (q + 1 + (s[kk]'hks).toNat ≤ L ∧ 12 ≤ q) := ⟨by omega, hq12⟩
            have hne1 : some (w.heap.size + 1) ≠ (Value.slice ra ss.length rc).ownBlock := fun e => by have := ownBlock_ge hown e.symm; omega
            obtain ⟨i0, hi, hz0, hz1, hz2⟩ := info_parts Tryd.infoString
            have g1 : (0 : Int) ≤ (kk : Int) + 1 := by omega
            have g2 : (kk : Int) + 1 ≤ (kk : Int) + 1 + ((s[kk]'hks).toNat : Int) := by omega
            have g3 : (kk : Int) + 1 + ((s[kk]'hks).toNat : Int) ≤ (s.size : Int) := by omega
            have g4 : IntKind.i64.wrap ((kk : Int) + 1) = (kk : Int) + 1 := by rw [IntKind.wrap_i64]; omega
            have g5 : IntKind.i64.wrap ((s[kk]'hks).toNat : Int) = ((s[kk]'hks).toNat : Int) := by rw [IntKind.wrap_i64]; omega
            have g6 : IntKind.i64.wrap ((kk : Int) + 1 + ((s[kk]'hks).toNat : Int)) = (kk : Int) + 1 + ((s[kk]'hks).toNat : Int) := by rw [IntKind.wrap_i64]; omega
            have g7 : (kk : Int) < (s.size : Int) := by omega
            have g8 : (0 : Int) ≤ (kk : Int) := by omega
            have bf := yf 4
            have hfA : ∀ o, (wr.alloc o).drew.frozen? ⟨w.heap.size + 1, 4, none⟩ = false := fun o => by
              have e := World.frozen?_alloc_old wr o ⟨w.heap.size + 1, 4, none⟩ (by simp; omega)
              simpa [e] using bf
            have g9 : ((kk : Int) + 1 + ((s[kk]'hks).toNat : Int)).toNat = kk + 1 + (s[kk]'hks).toNat := by omega
            have G9 : Hid (((kk : Int) + 1 + ((s[kk]'hks).toNat : Int)).toNat = kk + 1 + (s[kk]'hks).toNat) := g9
            clear g9
            clear HT hqL hend' hbig hkk zf z0 z1 z2 z3 z4 y0 y1 y2 y3 yf
            go_wp2_with fail
            have hcA : ∀ o, (wr.alloc o).drew.cell? ⟨w.heap.size + 1, 4, none⟩ = some (.slice ra ss.length rc) := fun o => by
              have e := World.cell?_alloc_old wr o ⟨w.heap.size + 1, 4, none⟩ (by simp; omega)
              simpa [e] using y4
            go_region_law ((refine step_append_lies _ (by rfl) _ _ _ (by rfl) (w.heap.size + 2) 9 i0 _ 1 16 Tryd.underlying58 hi hz0 hz1 hz2 rfl (by omega) (.slice ra ss.length rc) ss.length (strVals ss) (by rfl) ((hown.alloc _).drew) ⟨wr.heap.size, 0, none⟩ 1 1 [.string (s.extract (kk + 1) ((kk : Int) + 1 + ((s[kk]'hks).toNat : Int)).toNat)] (by rfl) (by rfl) (World.news_of_block (cs := #[.string (s.extract (kk + 1) ((kk : Int) + 1 + ((s[kk]'hks).toNat : Int)).toNat)]) (t := 9) (fr := (0, 0)) (heap_alloc_new wr _)) (by simp [Value.oneCell']) (by omega) (by unfold maxLen; omega) (by omega) (by simp; omega) (wr.heap.size + 1) (by simp) ?_; intro g cap w2 hown2 hgrow hat hlt2; have c2 := (hgrow.cell_far ⟨w.heap.size + 1, 4, none⟩ (by simp; omega) hne1).trans (hcA _); have f2 := (hgrow.frozen_far ⟨w.heap.size + 1, 4, none⟩ (by simp; omega) hne1).trans (hfA _)))
            all_goals
              have hst2 := tk_step HS.out (((Below.refl _ _).alloc (Nat.le_refl _) _).drew) hgrow hown2
              have HS2 : Hid (TkSt w A1 A2 A3 A4 (w2.setCell ⟨w.heap.size + 1, 4, none⟩ (.slice (some ⟨g, 0, none⟩) (ss.length + 1) cap)) (.slice (some ⟨g, 0, none⟩) (ss.length + 1) cap) (ss ++ [s.extract (kk + 1) (kk + 1 + (s[kk]'hks).toNat)])) := by
                have := hst2
                rwa [G9.out] at this
              clear hst2 hown2 hgrow hat hlt2 c2 f2 hcA hfA hown HS bf y4 hne1
              go_wp2_with fail
              go_roundw
              case rel => exact ⟨q + 1 + (s[kk]'hks).toNat, r, _, _, by have := HK.out; go_num, by go_num, by have := HQ.out; omega, .inl HQ.out.1, by omega, by rw [List.length_append, List.length_singleton]; omega, HX.out, HS2.out⟩
              case measure => simp [intOf]
      | zero =>
        have HD : Hid (specDec (s.data.toList.drop n) = if (hdr (s.data.toList.drop n) ss).good = true ∧ encB (hdr (s.data.toList.drop n) ss) = (s.data.toList.drop n).take L then some (hdr (s.data.toList.drop n) ss) else none) := by
          have h := spec_some (r := s.data.toList.drop n) (ss := ss) (rest := ((s.data.toList.drop n).take L).drop q) (by rw [HLL.out, nth11 h11]; exact left_done HT.out)
          rwa [HLL.out] at h
        have HH : Hid (hdr (s.data.toList.drop n) ss = ⟨(A1 : Nat), (A2 : Nat), (A3 : Nat), (A4 : Nat), ss⟩) := by
          show _ = _
          unfold hdr
          rw [HA1.out, HA2.out, HA3.out, HA4.out]
        have hsize := rec_sizes HT.out
        have hst := strs_of_owns hown hsize
        have HB : Hid ((s.extract n (n + L)).data.toList = (s.data.toList.drop n).take L) := by show _ = _; rw [extract_toList, Nat.add_sub_cancel_left]
        clear HT hqL hkk
        have hsl : ss.length ≤ maxLen := by unfold maxLen; omega
        obtain ⟨gd, hgd⟩ : ∃ gd, Bt.good ⟨(A1 : Nat), (A2 : Nat), (A3 : Nat), (A4 : Nat), ss⟩ = gd := ⟨_, rfl⟩
        have HG : Hid (Bt.good ⟨(A1 : Nat), (A2 : Nat), (A3 : Nat), (A4 : Nat), ss⟩ = gd) := hgd
        clear hgd
        cases gd with
        | false =>
          have HN : Hid (specTake s.data.toList n = none) := by
            show _ = _
            unfold specTake
            have e : specDec (s.data.toList.drop n) = none := by
              rw [HD.out, HH.out]
              exact if_neg (fun h => by have := h.1; rw [HG.out] at this; cases this)
            rw [e]
            simp
          clear HD HH HB
          go_wp2_with fail
          refine reg15_bad _ s n L w.heap.size (w.heap.size + 1) A1 A2 A3 A4 ss ra rc _ _ _ _ _ _ _ _ _ _ _ _ _ _ _ _ _ _ _ _ _ _ _ _ _ _ _ _ _ _ _ _ _ _ _ _ _ _ _ _ _ _ _ _ _ _ _ _ _ _ _ _ _ _ _ _ _ _ _ _ _ _ _ _ _ _ _ _ _ _ _ _ _ _ _ _ _ _ _ _ _ _ _ _ _ _ _ _ _ _ _ _ _ _ _ _ _ _ _ _ _ _ _ _ _ _ _ _ _ _ _ _ _ _ _ _ _ _ wr y0 y1 y2 y3 y4 hst hsl HG ?_
          intro v108 v109 v110 v111 v112 v113 v114 v115 v116 v117 v118 w5 hB5
          have hbf := hbel.trans (hB5.mono hbel.size)
          have z0 := ((bcell hB5).1 w.heap.size 0 lt0).trans z0
          have z1 := ((bcell hB5).1 w.heap.size 1 lt0).trans z1
          have z2 := ((bcell hB5).1 w.heap.size 2 lt0).trans z2
          have z3 := ((bcell hB5).1 w.heap.size 3 lt0).trans z3
          have z4 := ((bcell hB5).1 w.heap.size 4 lt0).trans z4
          have zf : ∀ i, w5.frozen? ⟨w.heap.size, i, none⟩ = false := fun i => ((bcell hB5).2 w.heap.size i lt0).trans (zf i)
          clear hB5 y0 y1 y2 y3 y4 yf hown hst
          go_wp2_with fail
          exact bodyPost_ret (v := .tuple #[.agg #[.int .i64 0, .int .i64 0, .int .i64 0, .int .i64 0, .slice none 0 0], .int .i64 0]) (by simp [results, Tryd.results34, go_sem, z0, z1, z2, z3, z4]) rfl ⟨⟨0, 0, 0, 0, []⟩, none, 0, 0, rfl, .inr ⟨rfl, rfl, rfl, rfl, HN.out⟩, ((((hbf.setCell (Nat.le_refl _) _).setCell (Nat.le_refl _) _).setCell (Nat.le_refl _) _).setCell (Nat.le_refl _) _).setCell (Nat.le_refl _) _⟩
        | true =>
          obtain ⟨b1, b2, b3, b4, b5, b6⟩ := good_parts HG.out
          have hL2 : 2 ≤ L := by rw [← HLL.out]; unfold lenOf; omega
          obtain ⟨X, hX⟩ : ∃ X : ByteArray, X = ⟨(bytesOf A1 A2 A3 A4 ss).toArray⟩ := ⟨_, rfl⟩
          have HX : Hid (X = ⟨(bytesOf A1 A2 A3 A4 ss).toArray⟩) := hX
          clear hX
          have HE : Hid (specDec (s.data.toList.drop n) = if X = s.extract n (n + L) then some ⟨(A1 : Nat), (A2 : Nat), (A3 : Nat), (A4 : Nat), ss⟩ else none) := by
            show _ = _
            rw [HD.out, HH.out, HG.out]
            have e1 : encB ⟨(A1 : Nat), (A2 : Nat), (A3 : Nat), (A4 : Nat), ss⟩ = bytesOf A1 A2 A3 A4 ss := by simp [encB]
            rw [e1, ← HB.out]
            by_cases hxe : X = s.extract n (n + L)
            · rw [if_pos hxe, if_pos]
              refine ⟨rfl, ?_⟩
              rw [← hxe, HX.out]
            · rw [if_neg hxe, if_neg]
              rintro ⟨-, h⟩
              exact hxe (by rw [HX.out]; exact Go.WideShapes.bytes_inj (by rw [← h]))
          clear HD HH HB
          go_wp2_with fail
          refine reg15_good _ s n L w.heap.size (w.heap.size + 1) A1 A2 A3 A4 ss ra rc _ _ _ _ _ _ _ _ _ _ _ _ _ _ _ _ _ _ _ _ _ _ _ _ _ _ _ _ _ _ _ _ _ _ _ _ _ _ _ _ _ _ _ _ _ _ _ _ _ _ _ _ _ _ _ _ _ _ _ _ _ _ _ _ _ _ _ _ _ _ _ _ _ _ _ _ _ _ _ _ _ _ _ _ _ _ _ _ _ _ _ _ _ _ _ _ _ _ _ _ _ _ _ _ _ _ _ _ _ _ _ _ _ _ _ _ _ _ wr y0 y1 y2 y3 y4 hst hsl hL' HG b1 b2 b3 b4 b5 b6 X HX ?_
          intro v108 v109 v110 v111 v112 v113 v114 v115 v116 v117 v118 w5 hB5
          have hbf := hbel.trans (hB5.mono hbel.size)
          have z0 := ((bcell hB5).1 w.heap.size 0 lt0).trans z0
          have z1 := ((bcell hB5).1 w.heap.size 1 lt0).trans z1
          have z2 := ((bcell hB5).1 w.heap.size 2 lt0).trans z2
          have z3 := ((bcell hB5).1 w.heap.size 3 lt0).trans z3
          have z4 := ((bcell hB5).1 w.heap.size 4 lt0).trans z4
          have zf : ∀ i, w5.frozen? ⟨w.heap.size, i, none⟩ = false := fun i => ((bcell hB5).2 w.heap.size i lt0).trans (zf i)
          have y0 := ((bcell hB5).1 (w.heap.size + 1) 0 lt1).trans y0
          have y1 := ((bcell hB5).1 (w.heap.size + 1) 1 lt1).trans y1
          have y2 := ((bcell hB5).1 (w.heap.size + 1) 2 lt1).trans y2
          have y3 := ((bcell hB5).1 (w.heap.size + 1) 3 lt1).trans y3
          have y4 := ((bcell hB5).1 (w.heap.size + 1) 4 lt1).trans y4
          have hown5 := owns_below hown hB5
          clear hB5 yf hown hst
          by_cases hxe : X = s.extract n (n + L)
          · have hq : (!X.toList == (s.extract n (n + L)).toList) = false := by rw [hxe]; simp
            have HN : Hid (specTake s.data.toList n = some (⟨(A1 : Nat), (A2 : Nat), (A3 : Nat), (A4 : Nat), ss⟩, n + L)) := by
              show _ = _
              unfold specTake
              rw [HE.out, if_pos hxe, HLL.out, if_pos ⟨by rw [List.length_drop, size_len]; omega, by rw [List.length_drop, size_len]; omega⟩]
              rfl
            clear hxe HE HX
            rw [hq]
            go_wp2_with fail
            refine bodyPost_ret (v := .tuple #[.agg #[.int .i64 (A1 : Int), .int .i64 (A2 : Int), .int .i64 (A3 : Int), .int .i64 (A4 : Int), .slice ra ss.length rc], .int .i64 ((n : Int) + (L : Int))]) (by simp [results, Tryd.results34, go_sem, z0, z1, z2, z3, z4]) rfl ⟨⟨(A1 : Nat), (A2 : Nat), (A3 : Nat), (A4 : Nat), ss⟩, ra, rc, (n : Int) + (L : Int), rfl, .inl ⟨⟨n + L, by simp, by omega, HN.out⟩, ?_⟩, ((((hbf.setCell (Nat.le_refl _) _).setCell (Nat.le_refl _) _).setCell (Nat.le_refl _) _).setCell (Nat.le_refl _) _).setCell (Nat.le_refl _) _⟩
            exact owns_mono (ownsRow_setCell_below (ownsRow_setCell_below (ownsRow_setCell_below (ownsRow_setCell_below (ownsRow_setCell_below hown5 (by simp) _) (by simp) _) (by simp) _) (by simp) _) (by simp) _) (by omega)
          · have hq : (!X.toList == (s.extract n (n + L)).toList) = true := by
              cases hb : (X.toList == (s.extract n (n + L)).toList) with
              | false => rfl
              | true =>
                rw [ByteArray.toList_eq, ByteArray.toList_eq] at hb
                exact absurd (Go.WideShapes.bytes_inj (by simpa using hb)) hxe
            have HN : Hid (specTake s.data.toList n = none) := by
              show _ = _
              unfold specTake
              rw [HE.out, if_neg hxe]
              simp
            clear hxe HE HX hown5
            rw [hq]
            go_wp2_with fail
            exact bodyPost_ret (v := .tuple #[.agg #[.int .i64 0, .int .i64 0, .int .i64 0, .int .i64 0, .slice none 0 0], .int .i64 0]) (by simp [results, Tryd.results34, go_sem, z0, z1, z2, z3, z4]) rfl ⟨⟨0, 0, 0, 0, []⟩, none, 0, 0, rfl, .inr ⟨rfl, rfl, rfl, rfl, HN.out⟩, ((((hbf.setCell (Nat.le_refl _) _).setCell (Nat.le_refl _) _).setCell (Nat.le_refl _) _).setCell (Nat.le_refl _) _).setCell (Nat.le_refl _) _⟩

end Go.Proofs.YtopndglgbollfaaDoor
