/-
  The asking by epochs, the program's side: the contract of impl.MatchBy.
-/
import Derived.Test.YtgmcllfdhkjafaaEpMatch
namespace Go.Proofs.Ytgmcllfdhkjafaa
open Go.RowKit

theorem moL_no {zs : List Int} (h : goodE zs = false) : moL zs = [] := by unfold moL; rw [h]; rfl
theorem moL_yes {zs : List Int} (h : goodE zs = true) : moL zs = marksL zs := by unfold moL; rw [h]; rfl

set_option maxRecDepth 100000 in
set_option maxHeartbeats 2000000 in
theorem implMB_any (aL aF : Option Addr) (cL cF : Nat) (L f : List Int) (w : World) (hL : Ints w aL L) (hF : Ints w aF f) (lL : L.length ≤ maxLen) (lF : f.length ≤ maxLen) :
    Calls Try.prog 6 #[.slice aL L.length cL, .slice aF f.length cF] w fun e w' => e = .returned (eeV (mbR L f)) ∧ Below w.heap.size w w' := by
  cases gL : goodE L with
  | false =>
    rw [mbR_no1 gL]
    have GL : Hid (goodE L = false) := gL
    clear gL
    go_enter Try.func6, Try.ntmps6
    go_wp2_with fail
    refine (implMO_any _ _ _ _ hL lL).mono ?_
    rintro r w1 ⟨v1, hr, hst1⟩
    rw [GL.out] at hr; subst hr
    replace hF := hF.below hst1.bel
    have hB1 := hst1.bel
    clear hst1
    go_wp2_with fail
    refine (implMO_any _ _ _ _ hF lF).mono ?_
    rintro r w2 ⟨v2, rfl, hst2⟩
    have BB := hB1.trans (hst2.bel.mono hB1.size)
    clear hst2 hB1
    go_wp2
    go_ret3
    exact ⟨rfl, BB⟩
  | true =>
  cases gF : goodE f with
  | false =>
    rw [mbR_no2 gF]
    have GL : Hid (goodE L = true) := gL
    have GF : Hid (goodE f = false) := gF
    clear gL gF
    go_enter Try.func6, Try.ntmps6
    go_wp2_with fail
    refine (implMO_any _ _ _ _ hL lL).mono ?_
    rintro r w1 ⟨v1, hr, hst1⟩
    rw [GL.out] at hr; subst hr
    replace hF := hF.below hst1.bel
    have hB1 := hst1.bel
    clear hst1
    go_wp2_with fail
    refine (implMO_any _ _ _ _ hF lF).mono ?_
    rintro r w2 ⟨v2, hr, hst2⟩
    rw [GF.out] at hr; subst hr
    have BB := hB1.trans (hst2.bel.mono hB1.size)
    clear hst2 hB1
    go_wp2
    go_ret3
    exact ⟨rfl, BB⟩
  | true =>
  rw [mbR_yes gL gF]
  have kL := marksL_ok gL
  have kF := marksL_ok gF
  have nL := (goodE_t.1 gL).1
  have nF := (goodE_t.1 gF).1
  have mL := marksL_len gL
  have mF := marksL_len gF
  have HML : Hid (moL L = marksL L) := moL_yes gL
  have HMF : Hid (moL f = marksL f) := moL_yes gF
  have GL : Hid (goodE L = true) := gL
  have GF : Hid (goodE f = true) := gF
  have KL : Hid (MkOk L L.length (marksL L)) := kL
  have KF : Hid (MkOk f f.length (marksL f)) := kF
  clear gL gF kL kF
  go_enter Try.func6, Try.ntmps6
  go_wp2_with fail
  refine (implMO_any _ _ _ _ hL lL).mono ?_
  rintro r w1 ⟨v1, hr, hst1⟩
  rw [GL.out] at hr; subst hr
  rw [HML.out] at hst1
  obtain ⟨a1, c1, rfl, M1, -, hB1⟩ := mkst_ans hst1
  replace hF := hF.below hB1
  clear hst1 hL
  go_wp2_with fail
  refine (implMO_any _ _ _ _ hF lF).mono ?_
  rintro r w2 ⟨v2, hr, hst2⟩
  rw [GF.out] at hr; subst hr
  rw [HMF.out] at hst2
  obtain ⟨a2, c2, rfl, M2, -, hB2⟩ := mkst_ans hst2
  replace M1 := M1.below hB2
  have BB := hB1.trans (hB2.mono hB1.size)
  clear hst2 hB1 hB2 hF
  have hle0 := endL_le KF.out (e := f.length) (ep := 100) (by decide)
  have hend0 := endL_end KF.out (ep := 100)
  have HST : Hid (matchL L f = matchF (marksL L) (marksL f) L.length f.length 102 (endL (marksL f) f.length 100).1 (endL (marksL f) f.length 100).2 0) := rfl
  obtain ⟨⟨x, y⟩, hxy⟩ : ∃ r, endL (marksL f) f.length 100 = r := ⟨_, rfl⟩
  have HXY : Hid (endL (marksL f) f.length 100 = (x, y)) := hxy
  rw [hxy] at hle0 hend0
  simp only at hle0 hend0
  have HS2 : Hid (matchL L f = matchF (marksL L) (marksL f) L.length f.length 102 x y 0) := by have := HST.out; rwa [hxy] at this
  clear hxy HST
  go_wp2_with fail
  refine (implEnd_any _ _ _ _ _ _ M2 (by omega)).mono ?_
  rintro r w3 ⟨hr, hB3⟩
  rw [HXY.out] at hr; subst hr
  replace M1 := M1.below hB3
  replace M2 := M2.below hB3
  replace BB := BB.trans (hB3.mono BB.size)
  clear hB3
  go_wp2_with fail
  go_loopw [11, 12, 13] (fun akv epv owv wr => ∃ (ep own : Int) (asked fuel : Nat), akv = .int .i64 (asked : Int) ∧ epv = .int .i64 ep ∧ owv = .int .i64 own ∧ -1 ≤ ep ∧ ep ≤ 100 ∧ 0 ≤ own ∧ own ≤ 30 ∧ asked + fuel = 102 ∧ ep + 2 ≤ fuel ∧ matchL L f = matchF (marksL L) (marksL f) L.length f.length fuel ep own asked ∧ Below w3.heap.size w3 wr) (fun _ epv _ _ => (intOf epv + 1).toNat)
  case atStart => exact ⟨x, y, 0, 102, rfl, rfl, rfl, hle0.1, hle0.2, hend0.1, by omega, rfl, by omega, HS2.out, Below.refl _ _⟩
  case round =>
    clear HS2 hle0 hend0
    obtain ⟨ep, own, asked, fuel, rfl, rfl, rfl, h0, h1, ho0, ho1, hsum, hfu, hM, hB⟩ := hrel
    have HM : Hid (matchL L f = matchF (marksL L) (marksL f) L.length f.length fuel ep own asked) := hM
    have HSUM : Hid (asked + fuel = 102) := hsum
    have hask : asked ≤ 102 := by omega
    clear hM hsum
    by_cases hneg : ep < 0
    · have HE : Hid (matchL L f = (0, asked)) := by show _ = _; rw [HM.out]; exact matchF_neg hneg
      have BE := BB.trans (hB.mono BB.size)
      have hd : ¬ (0 ≤ ep) := by omega
      clear M1 M2
      go_wp2
      go_ret3
      exact ⟨by rw [HE.out]; rfl, BE⟩
    · have hp : 0 ≤ ep := by omega
      have hle := endL_le KL.out (e := L.length) (ep := ep) (by omega)
      have hen := endL_end KL.out (ep := ep)
      obtain ⟨⟨t, en⟩, hte⟩ : ∃ r, endL (marksL L) L.length ep = r := ⟨_, rfl⟩
      have HT : Hid (endL (marksL L) L.length ep = (t, en)) := hte
      rw [hte] at hle hen
      simp only at hle hen
      clear hte
      go_wp2_with fail
      refine (implEnd_any _ _ _ _ _ _ (M1.below hB) (by omega)).mono ?_
      rintro r w4 ⟨hr, hB4⟩
      rw [HT.out] at hr; subst hr
      replace hB := hB.trans (hB4.mono hB.size)
      clear hB4
      by_cases htp : t = ep
      · have htb : (t == ep) = true := by simp [htp]
        have HIT : Hid (matchL L f = (min en own, asked + 1)) := by
          show _ = _
          rw [HM.out, matchF_hit (by omega) hp (by rw [HT.out]; exact htp), HT.out]
        have BE := BB.trans (hB.mono BB.size)
        clear htp M1 M2
        go_wp2
        all_goals
          go_ret3
          exact ⟨by rw [HIT.out]; simp [eeV]; omega, BE⟩
      · have htb : (t == ep) = false := by simp [htp]
        obtain ⟨n, rfl⟩ : ∃ n, fuel = n + 1 := ⟨fuel - 1, by omega⟩
        have HGO : Hid (matchL L f = matchF (marksL L) (marksL f) L.length f.length n (endL (marksL f) f.length t).1 (endL (marksL f) f.length t).2 (asked + 1)) := by
          have := HM.out
          rw [matchF_go hp (by rw [HT.out]; exact htp), HT.out] at this
          exact this
        have hle2 := endL_le KF.out (e := f.length) (ep := t) hle.1
        have hen2 := endL_end KF.out (ep := t)
        obtain ⟨⟨nx, no⟩, hnx⟩ : ∃ r, endL (marksL f) f.length t = r := ⟨_, rfl⟩
        have HNX : Hid (endL (marksL f) f.length t = (nx, no)) := hnx
        rw [hnx] at hle2 hen2
        simp only at hle2 hen2
        have HG2 : Hid (matchL L f = matchF (marksL L) (marksL f) L.length f.length n nx no (asked + 1)) := by have := HGO.out; rwa [hnx] at this
        clear hnx HGO
        go_wp2_with fail
        refine (implEnd_any _ _ _ _ _ _ (M2.below hB) (by omega)).mono ?_
        rintro r w5 ⟨hr, hB5⟩
        rw [HNX.out] at hr; subst hr
        replace hB := hB.trans (hB5.mono hB.size)
        clear hB5
        go_wp2_with fail
        go_roundw
        case rel =>
          have hs := HSUM.out
          exact ⟨nx, no, asked + 1, n, by go_num, rfl, rfl, by omega, by omega, by omega, by omega, by omega, by omega, HG2.out, hB⟩
        case measure => simp [intOf]; omega

end Go.Proofs.Ytgmcllfdhkjafaa
