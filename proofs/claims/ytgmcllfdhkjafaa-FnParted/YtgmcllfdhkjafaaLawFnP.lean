/-
  The walk of the law FnParted: at every list of bytes that can be read it answers true and leaves what was there as it was.
-/
import Derived.Test.YtgmcllfdhkjafaaCurT
namespace Go.Proofs.Ytgmcllfdhkjafaa
open Go.RowKit

theorem Below.stq {W a b : World} (h : Below W.heap.size W a) (k : Below a.heap.size a b) : Below W.heap.size W b := h.trans (k.mono h.size)

theorem fo_ansG {w w' : World} {zs : List Int} {ok : Bool} {e : Ending} (h : FoAns w zs ok e w') : ∃ a' c', e = .returned (.tuple #[.slice a' zs.length c', .bool ok]) ∧ Ints w' a' zs ∧ Below w.heap.size w w' := by
  obtain ⟨v, rfl, hown, hB⟩ := h
  obtain ⟨a', c', rfl⟩ := ownsM_form hown
  exact ⟨a', c', rfl, (ints_of_owns hown).1, hB⟩

theorem sameInts_t (a a2 : Option Addr) (c c2 : Nat) (xs : List Int) (w : World) (hx : Ints w a xs) (hy : Ints w a2 xs) (hl : xs.length ≤ 1048576) :
    Calls Try.prog 12 #[.slice a xs.length c, .slice a2 xs.length c2] w fun e w' => e = .returned (.bool true) ∧ Below w.heap.size w w' :=
  (sameInts_any a a2 c c2 xs xs w hx hy hl hl).mono fun e w' ⟨h1, n, h2⟩ => ⟨h1.trans (by rw [decide_eq_true rfl]), by rw [h2]; exact below_drewN (Below.refl _ _) n⟩

set_option maxRecDepth 100000 in
set_option maxHeartbeats 8000000 in
theorem lawFnParted_any (ca : Option Addr) (cc : Nat) (code : List UInt8) (w : World) (HC : Bys w ca code) (lc : code.length ≤ 140737488351232) :
    Calls Try.prog 3 #[.slice ca code.length cc] w fun r w' => r = .returned (.bool true) ∧ Below w.heap.size w w' := by
  by_cases hbig : (1048576 : Int) < (code.length : Int)
  · go_enter Try.func3, Try.ntmps3
    go_wp2
    go_ret
    exact ⟨rfl, Below.refl _ _⟩
  have hl1 : code.length ≤ 1048576 := by omega
  go_enter Try.func3, Try.ntmps3
  go_wp2_with fail
  refine (drawMatch_any _ _ _ _ HC hl1).mono ?_
  rintro r w1 ⟨va, vb, a, b, rfl, ⟨⟨A, CA, rfl, sA, HA⟩, nA⟩, ⟨⟨B, CB, rfl, sB, HB⟩, nB⟩, BB⟩
  have mA : a.length ≤ maxLen := by unfold maxLen; omega
  have mB : b.length ≤ maxLen := by unfold maxLen; omega
  clear HC
  obtain ⟨⟨x, y, ok⟩, hxy⟩ : ∃ r, mbR a b = r := ⟨_, rfl⟩
  have HXY : Hid (mbR a b = (x, y, ok)) := hxy
  clear hxy
  go_wp2_with fail
  refine (implMB_any _ _ _ _ _ _ _ HA HB mA mB).mono ?_
  rintro r w2 ⟨hr, hB⟩
  rw [HXY.out] at hr; simp only [eeV] at hr; subst hr
  replace HA := HA.below hB
  replace HB := HB.below hB
  replace BB := Below.stq BB hB
  clear hB
  go_wp2_with fail
  refine (specMB_any _ _ _ _ _ _ _ HA HB mA mB).mono ?_
  rintro r w3 ⟨hr, hB⟩
  rw [HXY.out] at hr; simp only [eeV] at hr; subst hr
  replace HA := HA.below hB
  replace HB := HB.below hB
  replace BB := Below.stq BB hB
  clear hB
  obtain ⟨⟨p, ok2⟩, hp⟩ : ∃ r, paR a b = r := ⟨_, rfl⟩
  have HP : Hid (paR a b = (p, ok2)) := hp
  clear hp
  go_wp2_with fail
  refine (implPA_any _ _ _ _ _ _ _ HA HB mA mB sA sB).mono ?_
  rintro r w4 ⟨hr, hB⟩
  rw [HP.out] at hr; simp only [paV] at hr; subst hr
  replace HA := HA.below hB
  replace HB := HB.below hB
  replace BB := Below.stq BB hB
  clear hB
  go_wp2_with fail
  refine (specPA_any _ _ _ _ _ _ _ HA HB mA mB).mono ?_
  rintro r w5 ⟨hr, hB⟩
  rw [HP.out] at hr; simp only [paV] at hr; subst hr
  replace HA := HA.below hB
  replace HB := HB.below hB
  replace BB := Below.stq BB hB
  clear hB
  have hfl : (folL a b).length ≤ 200 := by
    unfold folL
    split
    · rw [List.length_append, List.length_take, List.length_drop]; omega
    · simp
  obtain ⟨fs, hfs⟩ : ∃ fs, folL a b = fs := ⟨_, rfl⟩
  obtain ⟨go, hgo⟩ : ∃ go, (goodE a && goodE b) = go := ⟨_, rfl⟩
  have HFS : Hid (folL a b = fs ∧ (goodE a && goodE b) = go) := ⟨hfs, hgo⟩
  rw [hfs] at hfl
  clear hfs hgo
  go_wp2_with fail
  refine (implFB_gen _ _ _ _ _ _ _ HA HB mA mB sA sB).mono ?_
  intro r w6 h6
  rw [HFS.out.1, HFS.out.2] at h6
  obtain ⟨a6, c6, rfl, H6, hB⟩ := fo_ansG h6
  replace HA := HA.below hB
  replace HB := HB.below hB
  replace BB := Below.stq BB hB
  clear hB h6
  go_wp2_with fail
  refine (specFB_gen _ _ _ _ _ _ _ HA HB mA mB sA sB).mono ?_
  intro r w7 h7
  rw [HFS.out.1, HFS.out.2] at h7
  obtain ⟨a7, c7, rfl, H7, hB⟩ := fo_ansG h7
  replace HA := HA.below hB
  replace HB := HB.below hB
  replace H6 := H6.below hB
  replace BB := Below.stq BB hB
  clear hB h7
  have t1 : (ok != ok) = false := by cases ok <;> rfl
  have t2 : (ok2 != ok2) = false := by cases ok2 <;> rfl
  have t3 : (go != go) = false := by cases go <;> rfl
  go_wp2_with fail
  refine (sameInts_t _ _ _ _ _ _ H6 H7 (by omega)).mono ?_
  rintro r w8 ⟨rfl, hB⟩
  replace HA := HA.below hB
  replace HB := HB.below hB
  replace H6 := H6.below hB
  replace BB := Below.stq BB hB
  clear hB H7
  obtain ⟨ga, hga⟩ : ∃ ga, goodE a = ga := ⟨_, rfl⟩
  have HGA : Hid (goodE a = ga) := hga
  have t4 : (ga != ga) = false := by cases ga <;> rfl
  clear hga
  go_wp2_with fail
  refine (implGoodE_any _ _ _ _ HA mA).mono ?_
  rintro r w9 ⟨hr, hw9⟩
  rw [HGA.out] at hr; subst hr
  rw [hw9]
  clear hw9 w9
  go_wp2_with fail
  refine (specGoodE_any _ _ _ _ HA mA).mono ?_
  rintro r w9 ⟨hr, hw9⟩
  rw [HGA.out] at hr; subst hr
  rw [hw9]
  clear hw9 w9
  cases go with
  | false =>
    have HE : Hid (x = 0 ∧ ok = false) := by
      have h1 := HXY.out
      have h2 := HFS.out.2
      unfold mbR at h1; rw [h2] at h1
      simp only [Bool.false_eq_true, if_false, Prod.mk.injEq] at h1
      exact ⟨h1.1.symm, h1.2.2.symm⟩
    have hok := HE.out.2
    have hx0 : (x == 0) = true := by rw [HE.out.1]; rfl
    clear HA HB H6
    subst hok
    go_wp2
    go_ret
    exact ⟨rfl, BB⟩
  | true =>
    have hg := HFS.out.2
    rw [Bool.and_eq_true] at hg
    have hm := HXY.out
    rw [mbR_yes hg.1 hg.2] at hm
    simp only [Prod.mk.injEq] at hm
    obtain ⟨hm1, hm2, rfl⟩ := hm
    have hpp := HP.out
    rw [paR_yes hg.1 hg.2] at hpp
    simp only [Prod.mk.injEq] at hpp
    obtain ⟨hp1, rfl⟩ := hpp
    have hbd := matchL_bd hg.1 hg.2
    have hask := match_asked hg.1 hg.2
    have hpart := comm_is a b
    obtain ⟨n, hn⟩ := Int.eq_ofNat_of_zero_le hbd.1
    obtain ⟨q, hq⟩ : ∃ q, comm a b = q := ⟨_, rfl⟩
    obtain ⟨k, hk⟩ : ∃ k, (matchL a b).2 = k := ⟨_, rfl⟩
    have HGR : Hid (Grew a b → (n : Int) = (q : Int) ∧ fs = a) := fun G => ⟨by rw [← hn, ← hq]; exact match_grew hg.1 hg.2 G, by rw [← HFS.out.1]; exact fol_grew hg.1 hg.2 G⟩
    rw [hn] at hm1 hbd
    rw [hk] at hm2 hask
    rw [hq] at hp1 hpart
    subst hm1 hm2 hp1
    clear hn hq hk hg
    have l1 : q ≤ a.length := hpart.1
    have l2 : q ≤ b.length := hpart.2.1
    have HT : Hid (a.take q = b.take q) := hpart.2.2.1
    have HD : Hid (q < a.length → q < b.length → zA a q ≠ zA b q) := hpart.2.2.2
    clear hpart
    rcases sA with ⟨rfl, h0, rfl⟩ | ⟨hCA, gA, rfl⟩
    · obtain rfl : a = [] := List.eq_nil_of_length_eq_zero h0
      have sA : SlOk none ([] : List Int).length 0 := .inl ⟨rfl, rfl, rfl⟩
      rcases sB with ⟨rfl, k0, rfl⟩ | ⟨hCB, gB, rfl⟩
      · obtain rfl : b = [] := List.eq_nil_of_length_eq_zero k0
        have sB : SlOk none ([] : List Int).length 0 := .inl ⟨rfl, rfl, rfl⟩
        obtain rfl : q = 0 := by simpa using l1
        obtain rfl : n = 0 := by have h1 := hbd.2.1; have h2 := hbd.2.2; simp at h1 h2; omega
        go_wp2_with fail
        go_quiet ((go_at_call 12; refine Calls.quiet_of (sameTake_t _ _ _ _ 0 0 ([] : List Int) ([] : List Int) _ (by first | exact HT.out | simp) (by first | omega | simp) (by first | omega | simp) (by first | omega | simp) (by first | omega | simp) ?_ ?_); (exact Ints.drewN HA _); (exact Ints.drewN HB _)))
        go_wp2_with fail
        refine (grew_any _ _ _ _ ([] : List Int) ([] : List Int) _ (HA.drewN _) (HB.drewN _) nA nB sA sB).mono ?_
        rintro r w10 ⟨gr, rfl, hG, m10, hw10⟩
        have B10 : Below w8.heap.size w8 w10 := by rw [hw10]; exact below_drewN (below_drewN (Below.refl _ _) _) _
        clear hw10
        cases gr with
        | false =>
          replace BB := Below.stq BB B10
          clear HA HB H6 B10
          go_wp2
          go_ret
          exact ⟨ret_bool (by first | (simp; done) | (simp; omega)), BB⟩
        | true =>
          obtain ⟨e1, e2⟩ := HGR.out (hG rfl)
          have hnq : ((0 : Int) != (0 : Int)) = false := by first | (simp; done) | (rw [e1]; simp)
          subst e2
          have HA2 := HA.below B10
          have H62 := H6.below B10
          replace BB := Below.stq BB B10
          clear HA HB H6 B10 e1 hG
          go_wp2_with fail
          refine (sameInts_t _ _ _ _ _ _ H62 HA2 (by first | omega | simp)).mono ?_
          rintro r w11 ⟨rfl, hB⟩
          replace BB := Below.stq BB hB
          clear HA2 H62 hB
          go_wp2
          go_ret
          exact ⟨ret_bool (by first | (simp; done) | (simp; omega)), BB⟩
      · have sB : SlOk (some ⟨gB, 0, none⟩) b.length CB := .inr ⟨hCB, gB, rfl⟩
        obtain rfl : q = 0 := by simpa using l1
        obtain rfl : n = 0 := by have h1 := hbd.2.1; have h2 := hbd.2.2; simp at h1 h2; omega
        have x2 : (0 : Int) ≤ (CB : Int) := by omega
        have g2 : decide ((b.length : Int) < (0 : Int)) = false := decide_eq_false (by simp <;> omega)
        have g2n : decide (b.length < 0) = false := decide_eq_false (by simp <;> omega)
        go_wp2_with fail
        go_quiet ((go_at_call 12; refine Calls.quiet_of (sameTake_t _ _ _ _ 0 0 ([] : List Int) b _ (by first | exact HT.out | simp) (by first | omega | simp) (by first | omega | simp) (by first | omega | simp) (by first | omega | simp) ?_ ?_); (exact Ints.drewN HA _); (exact Ints.drewN HB _)))
        go_wp2_with fail
        refine (grew_any _ _ _ _ ([] : List Int) b _ (HA.drewN _) (HB.drewN _) nA nB sA sB).mono ?_
        rintro r w10 ⟨gr, rfl, hG, m10, hw10⟩
        have B10 : Below w8.heap.size w8 w10 := by rw [hw10]; exact below_drewN (below_drewN (Below.refl _ _) _) _
        clear hw10
        cases gr with
        | false =>
          replace BB := Below.stq BB B10
          clear HA HB H6 B10
          go_wp2
          go_ret
          exact ⟨ret_bool (by first | (simp; done) | (simp; omega)), BB⟩
        | true =>
          obtain ⟨e1, e2⟩ := HGR.out (hG rfl)
          have hnq : ((0 : Int) != (0 : Int)) = false := by first | (simp; done) | (rw [e1]; simp)
          subst e2
          have HA2 := HA.below B10
          have H62 := H6.below B10
          replace BB := Below.stq BB B10
          clear HA HB H6 B10 e1 hG
          go_wp2_with fail
          refine (sameInts_t _ _ _ _ _ _ H62 HA2 (by first | omega | simp)).mono ?_
          rintro r w11 ⟨rfl, hB⟩
          replace BB := Below.stq BB hB
          clear HA2 H62 hB
          go_wp2
          go_ret
          exact ⟨ret_bool (by first | (simp; done) | (simp; omega)), BB⟩
    · have sA : SlOk (some ⟨gA, 0, none⟩) a.length CA := .inr ⟨hCA, gA, rfl⟩
      rcases sB with ⟨rfl, k0, rfl⟩ | ⟨hCB, gB, rfl⟩
      · obtain rfl : b = [] := List.eq_nil_of_length_eq_zero k0
        have sB : SlOk none ([] : List Int).length 0 := .inl ⟨rfl, rfl, rfl⟩
        obtain rfl : q = 0 := by simpa using l2
        obtain rfl : n = 0 := by have h1 := hbd.2.1; have h2 := hbd.2.2; simp at h1 h2; omega
        have x1 : (0 : Int) ≤ (CA : Int) := by omega
        have g1 : decide ((a.length : Int) < (0 : Int)) = false := decide_eq_false (by simp <;> omega)
        have g1n : decide (a.length < 0) = false := decide_eq_false (by simp <;> omega)
        go_wp2_with fail
        by_cases y1 : 0 < a.length
        · have z1 : (0 : Int) < (a.length : Int) := by omega
          go_quiet ((go_at_call 12; refine Calls.quiet_of (sameTake_t _ _ _ _ 0 0 a ([] : List Int) _ (by first | exact HT.out | simp) (by first | omega | simp) (by first | omega | simp) (by first | omega | simp) (by first | omega | simp) ?_ ?_); (exact Ints.drewN HA _); (exact Ints.drewN HB _)))
          go_wp2_with fail
          refine (grew_any _ _ _ _ a ([] : List Int) _ (HA.drewN _) (HB.drewN _) nA nB sA sB).mono ?_
          rintro r w10 ⟨gr, rfl, hG, m10, hw10⟩
          have B10 : Below w8.heap.size w8 w10 := by rw [hw10]; exact below_drewN (below_drewN (Below.refl _ _) _) _
          clear hw10
          cases gr with
          | false =>
            replace BB := Below.stq BB B10
            clear HA HB H6 B10
            go_wp2
            go_ret
            exact ⟨ret_bool (by first | (simp; done) | (simp; omega)), BB⟩
          | true =>
            obtain ⟨e1, e2⟩ := HGR.out (hG rfl)
            have hnq : ((0 : Int) != (0 : Int)) = false := by first | (simp; done) | (rw [e1]; simp)
            subst e2
            have HA2 := HA.below B10
            have H62 := H6.below B10
            replace BB := Below.stq BB B10
            clear HA HB H6 B10 e1 hG
            go_wp2_with fail
            refine (sameInts_t _ _ _ _ _ _ H62 HA2 (by first | omega | simp)).mono ?_
            rintro r w11 ⟨rfl, hB⟩
            replace BB := Below.stq BB hB
            clear HA2 H62 hB
            go_wp2
            go_ret
            exact ⟨ret_bool (by first | (simp; done) | (simp; omega)), BB⟩
        · have z1 : decide ((0 : Int) < (a.length : Int)) = false := decide_eq_false (by omega)
          have z1n : decide (0 < a.length) = false := decide_eq_false (by omega)
          go_quiet ((go_at_call 12; refine Calls.quiet_of (sameTake_t _ _ _ _ 0 0 a ([] : List Int) _ (by first | exact HT.out | simp) (by first | omega | simp) (by first | omega | simp) (by first | omega | simp) (by first | omega | simp) ?_ ?_); (exact Ints.drewN HA _); (exact Ints.drewN HB _)))
          go_wp2_with fail
          refine (grew_any _ _ _ _ a ([] : List Int) _ (HA.drewN _) (HB.drewN _) nA nB sA sB).mono ?_
          rintro r w10 ⟨gr, rfl, hG, m10, hw10⟩
          have B10 : Below w8.heap.size w8 w10 := by rw [hw10]; exact below_drewN (below_drewN (Below.refl _ _) _) _
          clear hw10
          cases gr with
          | false =>
            replace BB := Below.stq BB B10
            clear HA HB H6 B10
            go_wp2
            go_ret
            exact ⟨ret_bool (by first | (simp; done) | (simp; omega)), BB⟩
          | true =>
            obtain ⟨e1, e2⟩ := HGR.out (hG rfl)
            have hnq : ((0 : Int) != (0 : Int)) = false := by first | (simp; done) | (rw [e1]; simp)
            subst e2
            have HA2 := HA.below B10
            have H62 := H6.below B10
            replace BB := Below.stq BB B10
            clear HA HB H6 B10 e1 hG
            go_wp2_with fail
            refine (sameInts_t _ _ _ _ _ _ H62 HA2 (by first | omega | simp)).mono ?_
            rintro r w11 ⟨rfl, hB⟩
            replace BB := Below.stq BB hB
            clear HA2 H62 hB
            go_wp2
            go_ret
            exact ⟨ret_bool (by first | (simp; done) | (simp; omega)), BB⟩
      · have sB : SlOk (some ⟨gB, 0, none⟩) b.length CB := .inr ⟨hCB, gB, rfl⟩
        have x1 : (q : Int) ≤ (CA : Int) := by omega
        have x2 : (q : Int) ≤ (CB : Int) := by omega
        have g1 : decide ((a.length : Int) < (q : Int)) = false := decide_eq_false (by simp <;> omega)
        have g2 : decide ((b.length : Int) < (q : Int)) = false := decide_eq_false (by simp <;> omega)
        have g1n : decide (a.length < q) = false := decide_eq_false (by simp <;> omega)
        have g2n : decide (b.length < q) = false := decide_eq_false (by simp <;> omega)
        have g3n : decide (a.length < n) = false := decide_eq_false (by omega)
        have g4n : decide (b.length < n) = false := decide_eq_false (by omega)
        have g3 : decide ((a.length : Int) < (n : Int)) = false := decide_eq_false (by omega)
        have g4 : decide ((b.length : Int) < (n : Int)) = false := decide_eq_false (by omega)
        go_wp2_with fail
        by_cases y1 : q < a.length
        · by_cases y2 : q < b.length
          · have z1 : (q : Int) < (a.length : Int) := by omega
            have z2 : (q : Int) < (b.length : Int) := by omega
            obtain ⟨_, _, ea, ka⟩ := HA q _ (zA_get y1)
            simp only [Option.some.injEq, Addr.mk.injEq, and_true] at ea
            obtain ⟨rfl, rfl⟩ := ea
            rw [Nat.zero_add] at ka
            obtain ⟨_, _, eb, kb⟩ := HB q _ (zA_get y2)
            simp only [Option.some.injEq, Addr.mk.injEq, and_true] at eb
            obtain ⟨rfl, rfl⟩ := eb
            rw [Nat.zero_add] at kb
            have y3 : (zA a q == zA b q) = false := by simp; exact HD.out y1 y2
            go_quiet ((go_at_call 12; refine Calls.quiet_of (sameTake_t _ _ _ _ q q a b _ (by first | exact HT.out | simp) (by first | omega | simp) (by first | omega | simp) (by first | omega | simp) (by first | omega | simp) ?_ ?_); (exact Ints.drewN HA _); (exact Ints.drewN HB _)))
            go_wp2_with fail
            refine (grew_any _ _ _ _ a b _ (HA.drewN _) (HB.drewN _) nA nB sA sB).mono ?_
            rintro r w10 ⟨gr, rfl, hG, m10, hw10⟩
            have B10 : Below w8.heap.size w8 w10 := by rw [hw10]; exact below_drewN (below_drewN (Below.refl _ _) _) _
            clear hw10
            cases gr with
            | false =>
              replace BB := Below.stq BB B10
              clear HA HB H6 B10
              go_wp2
              go_ret
              exact ⟨ret_bool (by first | (simp; done) | (simp; omega)), BB⟩
            | true =>
              obtain ⟨e1, e2⟩ := HGR.out (hG rfl)
              have hnq : ((n : Int) != (q : Int)) = false := by first | (simp; done) | (rw [e1]; simp)
              subst e2
              have HA2 := HA.below B10
              have H62 := H6.below B10
              replace BB := Below.stq BB B10
              clear HA HB H6 B10 e1 hG
              go_wp2_with fail
              refine (sameInts_t _ _ _ _ _ _ H62 HA2 (by first | omega | simp)).mono ?_
              rintro r w11 ⟨rfl, hB⟩
              replace BB := Below.stq BB hB
              clear HA2 H62 hB
              go_wp2
              go_ret
              exact ⟨ret_bool (by first | (simp; done) | (simp; omega)), BB⟩
          · have z1 : (q : Int) < (a.length : Int) := by omega
            have z2 : decide ((q : Int) < (b.length : Int)) = false := decide_eq_false (by simp <;> omega)
            have z2n : decide (q < b.length) = false := decide_eq_false (by omega)
            go_quiet ((go_at_call 12; refine Calls.quiet_of (sameTake_t _ _ _ _ q q a b _ (by first | exact HT.out | simp) (by first | omega | simp) (by first | omega | simp) (by first | omega | simp) (by first | omega | simp) ?_ ?_); (exact Ints.drewN HA _); (exact Ints.drewN HB _)))
            go_wp2_with fail
            refine (grew_any _ _ _ _ a b _ (HA.drewN _) (HB.drewN _) nA nB sA sB).mono ?_
            rintro r w10 ⟨gr, rfl, hG, m10, hw10⟩
            have B10 : Below w8.heap.size w8 w10 := by rw [hw10]; exact below_drewN (below_drewN (Below.refl _ _) _) _
            clear hw10
            cases gr with
            | false =>
              replace BB := Below.stq BB B10
              clear HA HB H6 B10
              go_wp2
              go_ret
              exact ⟨ret_bool (by first | (simp; done) | (simp; omega)), BB⟩
            | true =>
              obtain ⟨e1, e2⟩ := HGR.out (hG rfl)
              have hnq : ((n : Int) != (q : Int)) = false := by first | (simp; done) | (rw [e1]; simp)
              subst e2
              have HA2 := HA.below B10
              have H62 := H6.below B10
              replace BB := Below.stq BB B10
              clear HA HB H6 B10 e1 hG
              go_wp2_with fail
              refine (sameInts_t _ _ _ _ _ _ H62 HA2 (by first | omega | simp)).mono ?_
              rintro r w11 ⟨rfl, hB⟩
              replace BB := Below.stq BB hB
              clear HA2 H62 hB
              go_wp2
              go_ret
              exact ⟨ret_bool (by first | (simp; done) | (simp; omega)), BB⟩
        · have z1 : decide ((q : Int) < (a.length : Int)) = false := decide_eq_false (by omega)
          have z1n : decide (q < a.length) = false := decide_eq_false (by omega)
          go_quiet ((go_at_call 12; refine Calls.quiet_of (sameTake_t _ _ _ _ q q a b _ (by first | exact HT.out | simp) (by first | omega | simp) (by first | omega | simp) (by first | omega | simp) (by first | omega | simp) ?_ ?_); (exact Ints.drewN HA _); (exact Ints.drewN HB _)))
          go_wp2_with fail
          refine (grew_any _ _ _ _ a b _ (HA.drewN _) (HB.drewN _) nA nB sA sB).mono ?_
          rintro r w10 ⟨gr, rfl, hG, m10, hw10⟩
          have B10 : Below w8.heap.size w8 w10 := by rw [hw10]; exact below_drewN (below_drewN (Below.refl _ _) _) _
          clear hw10
          cases gr with
          | false =>
            replace BB := Below.stq BB B10
            clear HA HB H6 B10
            go_wp2
            go_ret
            exact ⟨ret_bool (by first | (simp; done) | (simp; omega)), BB⟩
          | true =>
            obtain ⟨e1, e2⟩ := HGR.out (hG rfl)
            have hnq : ((n : Int) != (q : Int)) = false := by first | (simp; done) | (rw [e1]; simp)
            subst e2
            have HA2 := HA.below B10
            have H62 := H6.below B10
            replace BB := Below.stq BB B10
            clear HA HB H6 B10 e1 hG
            go_wp2_with fail
            refine (sameInts_t _ _ _ _ _ _ H62 HA2 (by first | omega | simp)).mono ?_
            rintro r w11 ⟨rfl, hB⟩
            replace BB := Below.stq BB hB
            clear HA2 H62 hB
            go_wp2
            go_ret
            exact ⟨ret_bool (by first | (simp; done) | (simp; omega)), BB⟩

end Go.Proofs.Ytgmcllfdhkjafaa
