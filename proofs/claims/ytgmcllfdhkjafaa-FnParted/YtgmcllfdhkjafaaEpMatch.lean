/-
  The asking by epochs: spec.l4Match, spec.MatchBy and impl.MatchBy answer the same numbers.
-/
import Derived.Test.YtgmcllfdhkjafaaEpMath
import Derived.Test.YtgmcllfdhkjafaaEpEnd2
namespace Go.Proofs.Ytgmcllfdhkjafaa
open Go.RowKit

theorem matchL_none (L f : List Int) (h : f.length = 0) : matchL L f = (0, 0) := by
  obtain rfl : f = [] := List.eq_nil_of_length_eq_zero h
  unfold matchL
  exact matchF_neg (by decide)

set_option maxRecDepth 100000 in
set_option maxHeartbeats 2000000 in
theorem l4Match_any (aL aF : Option Addr) (cL cF : Nat) (L f : List Int) (w : World) (hL : Ints w aL L) (hF : Ints w aF f) (gL : goodE L = true) (gF : goodE f = true) :
    Calls Try.prog 31 #[.slice aL L.length cL, .slice aF f.length cF] w fun e w' => e = .returned (.tuple #[.int .i64 (matchL L f).1, .int .i64 ((matchL L f).2 : Int)]) ∧ Below w.heap.size w w' := by
  have kL := marksL_ok gL
  have kF := marksL_ok gF
  have nL := (goodE_t.1 gL).1
  have nF := (goodE_t.1 gF).1
  have mL := marksL_len gL
  have mF := marksL_len gF
  have HRL : Hid (risM (marksL L)) := kL.ris
  have HRF : Hid (risM (marksL f)) := kF.ris
  go_enter Try.func31, Try.ntmps31
  have KL : Hid (MkOk L L.length (marksL L)) := kL
  have KF : Hid (MkOk f f.length (marksL f)) := kF
  have GF : Hid (goodE f = true) := gF
  clear kL kF gL gF
  go_wp2_with fail
  refine (l4Marks_any _ _ _ _ hL nL).mono ?_
  rintro r w1 ⟨v1, rfl, hst1⟩
  obtain ⟨a1, c1, rfl, M1, -, hB1⟩ := mkst_ans hst1
  replace hF := hF.below hB1
  clear hst1 hL
  go_wp2_with fail
  refine (l4Marks_any _ _ _ _ hF nF).mono ?_
  rintro r w2 ⟨v2, rfl, hst2⟩
  obtain ⟨a2, c2, rfl, M2, -, hB2⟩ := mkst_ans hst2
  replace M1 := M1.below hB2
  replace hF := hF.below hB2
  have BB := hB1.trans (hB2.mono hB1.size)
  clear hst2 hB1 hB2
  by_cases h0 : f.length = 0
  · have hz : ((f.length : Int) == 0) = true := by simp [h0]
    have HE : Hid (matchL L f = (0, 0)) := matchL_none L f h0
    clear h0
    go_wp2
    go_ret2
    exact ⟨ret_two (by rw [HE.out]) (by rw [HE.out]; rfl), BB⟩
  · have hz : ((f.length : Int) == 0) = false := by simp; intro h; exact h0 (by rw [h]; rfl)
    obtain ⟨j, hj⟩ : ∃ j, f.length = j + 1 := ⟨f.length - 1, by omega⟩
    obtain ⟨b, off, rfl, hc⟩ := hF j _ (zA_get (by omega))
    have hjl : (f.length : Int) - 1 = (j : Int) := by omega
    have hji : (j : Int) < (f.length : Int) := by omega
    have hjn : f.length - 1 = j := by omega
    have hfirst := endL_first GF.out (by omega)
    rw [hjn] at hfirst
    have hep := (goodE_t.1 GF.out).2 j (by omega)
    have HST : Hid (matchL L f = matchF (marksL L) (marksL f) L.length f.length 102 (zA f j) (endL (marksL f) f.length (zA f j)).2 0) := by
      have e2 := endL_again KF.out (e := f.length) (ep := 100) (by rw [hfirst]; exact hep.1)
      rw [hfirst] at e2
      show matchL L f = _
      unfold matchL
      rw [hfirst, e2]
    obtain ⟨x, hx⟩ : ∃ x, zA f j = x := ⟨_, rfl⟩
    rw [hx] at hc hep
    have HST2 : Hid (matchL L f = matchF (marksL L) (marksL f) L.length f.length 102 x (endL (marksL f) f.length x).2 0) := by have := HST.out; rwa [hx] at this
    have hx0 := hep.1
    have hx1 := hep.2.1
    clear hj hfirst hep HST hx hF h0 hjn
    go_wp2_with fail
    go_loop [8, 9] (fun epv akv => ∃ (ep : Int) (asked fuel : Nat), epv = .int .i64 ep ∧ akv = .int .i64 ((asked + 1 : Nat) : Int) ∧ 0 ≤ ep ∧ ep ≤ 100 ∧ asked + fuel = 102 ∧ ep + 2 ≤ fuel ∧ matchL L f = matchF (marksL L) (marksL f) L.length f.length fuel ep (endL (marksL f) f.length ep).2 asked) (fun epv _ => (intOf epv + 1).toNat)
    case atStart => exact ⟨x, 0, 102, rfl, rfl, hx0, hx1, rfl, by omega, HST2.out⟩
    case round =>
      clear hc HST2 hx0 hx1
      obtain ⟨ep, asked, fuel, rfl, rfl, h0, h1, hsum, hfu, hM⟩ := hrel
      have HM : Hid (matchL L f = matchF (marksL L) (marksL f) L.length f.length fuel ep (endL (marksL f) f.length ep).2 asked) := hM
      have HSUM : Hid (asked + fuel = 102) := hsum
      have hle := endL_le KL.out (e := L.length) (ep := ep) (by omega)
      have hask : asked ≤ 102 := by omega
      clear hM hsum
      obtain ⟨⟨t, en⟩, hte⟩ : ∃ r, endL (marksL L) L.length ep = r := ⟨_, rfl⟩
      have HT : Hid (endL (marksL L) L.length ep = (t, en)) := hte
      rw [hte] at hle
      simp only at hle
      clear hte
      go_wp2_with fail
      refine (specEnd_any _ _ _ _ _ _ M1 (by omega) HRL.out).mono ?_
      rintro r w3 ⟨hr, hw3⟩
      rw [HT.out] at hr; subst hr
      rw [hw3]
      clear hw3 w3
      by_cases htp : t = ep
      · have htb : (t == ep) = true := by simp [htp]
        have HIT : Hid (matchL L f = (min en (endL (marksL f) f.length ep).2, asked + 1)) := by
          show _ = _
          rw [HM.out, matchF_hit (by omega) h0 (by rw [HT.out]; exact htp), HT.out]
        obtain ⟨⟨o1, own⟩, hown⟩ : ∃ r, endL (marksL f) f.length ep = r := ⟨_, rfl⟩
        have HOW : Hid (endL (marksL f) f.length ep = (o1, own)) := hown
        clear htp hown
        go_wp2_with fail
        refine (specEnd_any _ _ _ _ _ _ M2 (by omega) HRF.out).mono ?_
        rintro r w3 ⟨hr, hw3⟩
        rw [HOW.out] at hr; subst hr
        rw [hw3]
        clear hw3 w3
        by_cases hlt : own < en
        · go_wp2
          go_ret2
          exact ⟨ret_two (by rw [HIT.out, HOW.out]; simp only; omega) (by rw [HIT.out]; simp), BB⟩
        · go_wp2
          go_ret2
          exact ⟨ret_two (by rw [HIT.out, HOW.out]; simp only; omega) (by rw [HIT.out]; simp), BB⟩
      · have htb : (t == ep) = false := by simp [htp]
        obtain ⟨n, rfl⟩ : ∃ n, fuel = n + 1 := ⟨fuel - 1, by omega⟩
        have HGO : Hid (matchL L f = matchF (marksL L) (marksL f) L.length f.length n (endL (marksL f) f.length t).1 (endL (marksL f) f.length t).2 (asked + 1)) := by
          have := HM.out
          rw [matchF_go h0 (by rw [HT.out]; exact htp), HT.out] at this
          exact this
        have hle2 := endL_le KF.out (e := f.length) (ep := t) hle.1
        have HAG : Hid (0 ≤ (endL (marksL f) f.length t).1 → endL (marksL f) f.length (endL (marksL f) f.length t).1 = endL (marksL f) f.length t) := fun h => endL_again KF.out h
        obtain ⟨⟨nx, no⟩, hnx⟩ : ∃ r, endL (marksL f) f.length t = r := ⟨_, rfl⟩
        have HNX : Hid (endL (marksL f) f.length t = (nx, no)) := hnx
        rw [hnx] at hle2
        simp only at hle2
        have HG2 : Hid (matchL L f = matchF (marksL L) (marksL f) L.length f.length n nx no (asked + 1)) := by have := HGO.out; rwa [hnx] at this
        have HA2 : Hid (0 ≤ nx → endL (marksL f) f.length nx = (nx, no)) := by have := HAG.out; rwa [hnx] at this
        clear hnx HGO HAG
        go_wp2_with fail
        refine (specEnd_any _ _ _ _ _ _ M2 (by omega) HRF.out).mono ?_
        rintro r w3 ⟨hr, hw3⟩
        rw [HNX.out] at hr; subst hr
        rw [hw3]
        clear hw3 w3
        by_cases hneg : nx < 0
        · have HE : Hid (matchL L f = (0, asked + 1)) := by show _ = _; rw [HG2.out]; exact matchF_neg hneg
          go_wp2
          go_ret2
          exact ⟨ret_two (by rw [HE.out]) (by rw [HE.out]; simp), BB⟩
        · go_wp2
          go_round
          case rel =>
            have hs := HSUM.out
            exact ⟨nx, asked + 1, n, rfl, by go_num, by omega, by omega, by omega, by omega, by rw [HA2.out (by omega)]; exact HG2.out⟩
          case measure => simp [intOf]; omega

def mbR (L f : List Int) : Int × Int × Bool := if goodE L && goodE f then ((matchL L f).1, ((matchL L f).2 : Int), true) else (0, 0, false)

theorem mbR_yes {L f : List Int} (h1 : goodE L = true) (h2 : goodE f = true) : mbR L f = ((matchL L f).1, ((matchL L f).2 : Int), true) := by
  unfold mbR; rw [h1, h2]; rfl
theorem mbR_no1 {L f : List Int} (h1 : goodE L = false) : mbR L f = (0, 0, false) := by
  unfold mbR; rw [h1]; rfl
theorem mbR_no2 {L f : List Int} (h2 : goodE f = false) : mbR L f = (0, 0, false) := by
  unfold mbR; rw [h2, Bool.and_false]; rfl

set_option maxRecDepth 100000 in
set_option maxHeartbeats 2000000 in
theorem specMB_any (aL aF : Option Addr) (cL cF : Nat) (L f : List Int) (w : World) (hL : Ints w aL L) (hF : Ints w aF f) (lL : L.length ≤ maxLen) (lF : f.length ≤ maxLen) :
    Calls Try.prog 7 #[.slice aL L.length cL, .slice aF f.length cF] w fun e w' => e = .returned (eeV (mbR L f)) ∧ Below w.heap.size w w' := by
  cases gL : goodE L with
  | false =>
    rw [mbR_no1 gL]
    have GL : Hid (goodE L = false) := gL
    clear gL
    go_enter Try.func7, Try.ntmps7
    go_wp2_with fail
    refine (specGoodE_any _ _ _ _ hL lL).mono ?_
    rintro r w1 ⟨hr, rfl⟩
    rw [GL.out] at hr; subst hr
    go_wp2
    go_ret3
    exact ⟨rfl, Below.refl _ _⟩
  | true =>
    cases gF : goodE f with
    | false =>
      rw [mbR_no2 gF]
      have GL : Hid (goodE L = true) := gL
      have GF : Hid (goodE f = false) := gF
      clear gL gF
      go_enter Try.func7, Try.ntmps7
      go_wp2_with fail
      refine (specGoodE_any _ _ _ _ hL lL).mono ?_
      rintro r w1 ⟨hr, rfl⟩
      rw [GL.out] at hr; subst hr
      go_wp2_with fail
      refine (specGoodE_any _ _ _ _ hF lF).mono ?_
      rintro r w2 ⟨hr, rfl⟩
      rw [GF.out] at hr; subst hr
      go_wp2
      go_ret3
      exact ⟨rfl, Below.refl _ _⟩
    | true =>
      rw [mbR_yes gL gF]
      have GL : Hid (goodE L = true) := gL
      have GF : Hid (goodE f = true) := gF
      clear gL gF
      go_enter Try.func7, Try.ntmps7
      go_wp2_with fail
      refine (specGoodE_any _ _ _ _ hL lL).mono ?_
      rintro r w1 ⟨hr, rfl⟩
      rw [GL.out] at hr; subst hr
      go_wp2_with fail
      refine (specGoodE_any _ _ _ _ hF lF).mono ?_
      rintro r w2 ⟨hr, rfl⟩
      rw [GF.out] at hr; subst hr
      go_wp2_with fail
      refine (l4Match_any _ _ _ _ _ _ _ hL hF GL.out GF.out).mono ?_
      rintro r w3 ⟨rfl, hB⟩
      go_wp2
      go_ret3
      exact ⟨rfl, hB⟩

end Go.Proofs.Ytgmcllfdhkjafaa
