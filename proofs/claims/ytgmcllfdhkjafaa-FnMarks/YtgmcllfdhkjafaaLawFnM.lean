/-
  The walk of the law FnMarks: at every two lists of bytes that can be read it answers true and leaves what was there as it was.
-/
import Derived.Test.YtgmcllfdhkjafaaCurM
import Derived.Test.YtgmcllfdhkjafaaEpMath2
import Derived.Test.YtgmcllfdhkjafaaEpEnd2
namespace Go.Proofs.Ytgmcllfdhkjafaa
open Go.RowKit

theorem Below.stp {W a b : World} (h : Below W.heap.size W a) (k : Below a.heap.size a b) : Below W.heap.size W b := h.trans (k.mono h.size)

theorem mo_ans {w w' : World} {ms : List Mk} {ok : Bool} {e : Ending} (h : MoAns w ms ok e w') : ∃ a' c', e = .returned (.tuple #[.slice a' ms.length c', .bool ok]) ∧ Mks w' a' ms ∧ RowM w' w.heap.size a' ms.length ∧ Below w.heap.size w w' := by
  obtain ⟨v, rfl, hst⟩ := h
  obtain ⟨a', c', rfl, h1, h2, h3⟩ := mkst_ans hst
  exact ⟨a', c', rfl, h1, h2, h3⟩

theorem cmL_len' (m : List Mk) (at_ : Int) : (cmL m at_).length ≤ m.length := by
  unfold cmL
  split
  · exact cutTo_len m at_ m.length
  · simp

theorem owns_cap {w : World} {B : Nat} {e : TypeId} {size : Nat} {a : Option Addr} {n n' c : Nat} {xs : List Value} (h : w.ownsRow B e size (.slice a n c) n' xs) : n = n' ∧ (a = none ∧ n = 0 ∧ c = 0 ∨ n ≤ c ∧ ∃ g, a = some ⟨g, 0, none⟩) := by
  obtain ⟨-, ⟨hv, rfl⟩ | ⟨g, cap, cur, hv, -, -, hnc, -⟩⟩ := h
  · simp only [Value.slice.injEq] at hv
    exact ⟨hv.2.1, .inl hv⟩
  · simp only [Value.slice.injEq] at hv
    obtain ⟨rfl, rfl, rfl⟩ := hv
    exact ⟨rfl, .inr ⟨hnc, g, rfl⟩⟩

theorem Ints.take {w : World} {a : Option Addr} {zs : List Int} (h : Ints w a zs) (n : Nat) : Ints w a (zs.take n) := fun i z hi => by
  have hlt := (List.getElem?_eq_some_iff.1 hi).1
  rw [List.length_take] at hlt
  rw [List.getElem?_take_of_lt (by omega)] at hi
  exact h i z hi

/-- What is told of an epoch that an entry has. -/
theorem ee_entry {zs : List Int} (h : goodE zs = true) {i : Nat} (hi : i < zs.length) : ∃ c : Nat, eeR (marksL zs) zs.length (zA zs i) = (zA zs i, (c : Int), true) ∧ i < c ∧ c ≤ zs.length ∧ (c < zs.length → zA zs i < zA zs c) ∧ zA zs (c - 1) = zA zs i := by
  obtain ⟨c, hc, he⟩ := endL_cnt h (zA zs i)
  obtain ⟨h1, h2⟩ := cnt_of h hc hi rfl
  have hok := (goodE_t.1 h).2 i hi
  have ok := marksL_ok h
  refine ⟨c, ?_, h1, hc.1, hc.2.2, h2⟩
  rw [eeR_yes ⟨marksL_good h, ⟨by omega, by have := (goodE_t.1 h).1; omega⟩, fun h0 => by exact (ok.rng _ (Nat.sub_lt h0 Nat.one_pos)).2.2.2, hok.1, hok.2.1⟩, he]
  rw [if_neg (by omega), h2]

set_option maxRecDepth 100000 in
set_option maxHeartbeats 8000000 in
theorem lawFnMarks_any (ca ma : Option Addr) (cc mc : Nat) (code more : List UInt8) (w : World) (HC : Bys w ca code) (HM : Bys w ma more) (lc : code.length ≤ 140737488351232) (lm : more.length ≤ 140737488351232) :
    Calls Try.prog 4 #[.slice ca code.length cc, .slice ma more.length mc] w fun r w' => r = .returned (.bool true) ∧ Below w.heap.size w w' := by
  by_cases hbig : (1048576 : Int) < (code.length : Int) + (more.length : Int)
  · go_enter Try.func4, Try.ntmps4
    go_wp2
    go_ret
    exact ⟨rfl, Below.refl _ _⟩
  have hl1 : code.length ≤ 1048576 := by omega
  have hl2 : more.length ≤ 1048576 := by omega
  go_enter Try.func4, Try.ntmps4
  go_wp2_with fail
  refine (drawMarksOf_any _ _ _ _ HC hl1).mono ?_
  rintro r w1 ⟨v1, zs, rfl, hz, own, BB⟩
  obtain ⟨a1, c1, rfl⟩ := ownsZ_form own
  have hcap := (owns_cap own).2
  have HL := (ints_of_owns own).1
  replace HM := HM.below BB
  have hzm : zs.length ≤ maxLen := by unfold maxLen; omega
  clear own HC
  have hml : (moL zs).length ≤ 31 := by
    unfold moL
    split
    · have := marksTo_len zs zs.length; unfold marksL; omega
    · simp
  obtain ⟨ms, hms⟩ : ∃ ms, moL zs = ms := ⟨_, rfl⟩
  obtain ⟨gd, hgd⟩ : ∃ gd, goodE zs = gd := ⟨_, rfl⟩
  have HMS : Hid (moL zs = ms) := hms
  have HGD : Hid (goodE zs = gd) := hgd
  rw [hms] at hml
  clear hms hgd
  go_wp2_with fail
  refine (implMO_any _ _ _ _ HL hzm).mono ?_
  intro r w2 h2
  rw [HMS.out, HGD.out] at h2
  obtain ⟨a2, c2, rfl, M2, -, hB2⟩ := mo_ans h2
  replace HM := HM.below hB2
  replace HL := HL.below hB2
  replace BB := Below.stp BB hB2
  clear hB2 h2
  go_wp2_with fail
  refine (specMO_any _ _ _ _ HL hzm).mono ?_
  intro r w3 h3
  rw [HMS.out, HGD.out] at h3
  obtain ⟨a3, c3, rfl, M3, -, hB3⟩ := mo_ans h3
  replace HM := HM.below hB3
  replace HL := HL.below hB3
  replace M2 := M2.below hB3
  replace BB := Below.stp BB hB3
  clear hB3 h3
  have hgg : (gd != gd) = false := by cases gd <;> rfl
  go_wp2_with fail
  refine (sameMarks_same _ _ _ _ _ _ M2 M3 (by omega)).mono ?_
  rintro r w4 ⟨rfl, hB4⟩
  replace HM := HM.below hB4
  replace HL := HL.below hB4
  replace M2 := M2.below hB4
  replace BB := Below.stp BB hB4
  clear hB4 M3
  cases gd with
  | false =>
    clear HL M2 hcap
    go_wp2_with fail
    refine (drawEnd_any _ _ _ _ HM hl2).mono ?_
    rintro r t1 ⟨v1, xs, n1, p1, rfl, hx1, own1, hB1⟩
    obtain ⟨b1, d1, rfl⟩ := ownsM_form own1
    have MX := (mks_of_owns own1).1
    replace HM := HM.below hB1
    replace BB := Below.stp BB hB1
    have hxm : xs.length ≤ maxLen := by unfold maxLen; omega
    clear own1 hB1
    obtain ⟨⟨q1, q2, q3⟩, hq⟩ : ∃ r, eeR xs n1 p1 = r := ⟨_, rfl⟩
    have HQ : Hid (eeR xs n1 p1 = (q1, q2, q3)) := hq
    clear hq
    go_wp2_with fail
    refine (implEE_any _ _ _ _ _ _ MX hxm).mono ?_
    rintro r t2 ⟨hr, hB2⟩
    rw [HQ.out] at hr; simp only [eeV] at hr; subst hr
    replace HM := HM.below hB2
    replace MX := MX.below hB2
    replace BB := Below.stp BB hB2
    clear hB2
    go_wp2_with fail
    refine (specEE_any _ _ _ _ _ _ MX hxm).mono ?_
    rintro r t3 ⟨hr, hB3⟩
    rw [HQ.out] at hr; simp only [eeV] at hr; subst hr
    replace HM := HM.below hB3
    replace MX := MX.below hB3
    replace BB := Below.stp BB hB3
    clear hB3
    go_wp2_with fail
    refine (drawCut_any _ _ _ _ HM hl2).mono ?_
    rintro r t4 ⟨v4, ys, n4, rfl, hx4, own4, hB4⟩
    obtain ⟨b4, d4, rfl⟩ := ownsM_form own4
    have MY := (mks_of_owns own4).1
    replace MX := MX.below hB4
    replace BB := Below.stp BB hB4
    have hym : ys.length ≤ maxLen := by unfold maxLen; omega
    clear own4 hB4 HM
    have hcl := Nat.le_trans (cmL_len' ys n4) hx4
    obtain ⟨cs, hcs⟩ : ∃ cs, cmL ys n4 = cs := ⟨_, rfl⟩
    obtain ⟨co, hco⟩ : ∃ co, cmOk ys n4 = co := ⟨_, rfl⟩
    have HCS : Hid (cmL ys n4 = cs ∧ cmOk ys n4 = co) := ⟨hcs, hco⟩
    rw [hcs] at hcl
    clear hcs hco
    go_wp2_with fail
    refine (implCM_any _ _ _ _ _ MY hym).mono ?_
    intro r t5 h5
    rw [HCS.out.1, HCS.out.2] at h5
    obtain ⟨b5, d5, rfl, M5, -, hB5⟩ := mo_ans h5
    replace MX := MX.below hB5
    replace MY := MY.below hB5
    replace BB := Below.stp BB hB5
    clear hB5 h5
    go_wp2_with fail
    refine (specCM_any _ _ _ _ _ MY hym).mono ?_
    intro r t6 h6
    rw [HCS.out.1, HCS.out.2] at h6
    obtain ⟨b6, d6, rfl, M6, -, hB6⟩ := mo_ans h6
    replace MX := MX.below hB6
    replace M5 := M5.below hB6
    replace BB := Below.stp BB hB6
    clear hB6 h6 MY
    have hc1 : (q3 == q3) = true := by simp
    have hc2 : (co == co) = true := by simp
    go_wp2_with fail
    refine (sameMarks_same _ _ _ _ _ _ M5 M6 (by omega)).mono ?_
    rintro r t7 ⟨rfl, hB7⟩
    replace MX := MX.below hB7
    replace BB := Below.stp BB hB7
    clear hB7 M5 M6
    obtain ⟨gm, hgm⟩ : ∃ gm, goodM xs = gm := ⟨_, rfl⟩
    have HGM : Hid (goodM xs = gm) := hgm
    have hgq : (gm == gm) = true := by simp
    clear hgm
    go_wp2_with fail
    refine (implGoodM_any _ _ _ _ MX hxm).mono ?_
    rintro r t8 ⟨hr, hB8⟩
    rw [HGM.out] at hr; subst hr
    replace MX := MX.below hB8
    replace BB := Below.stp BB hB8
    clear hB8
    go_wp2_with fail
    refine (specGoodM_any _ _ _ _ MX hxm).mono ?_
    rintro r t9 ⟨hr, hB9⟩
    rw [HGM.out] at hr; subst hr
    replace BB := Below.stp BB hB9
    clear hB9
    go_wp2
    go_ret
    exact ⟨ret_bool (by simp), BB⟩
  | true =>
    have HMM : Hid (ms = marksL zs) := by show _ = _; rw [← HMS.out]; unfold moL; rw [HGD.out]; rfl
    have h30 := (goodE_t.1 HGD.out).1
    have HGM : Hid (goodM ms = true) := by show _ = _; rw [HMM.out]; exact marksL_good HGD.out
    have hmm : ms.length ≤ maxLen := by unfold maxLen; omega
    go_wp2_with fail
    refine (implGoodM_any _ _ _ _ M2 hmm).mono ?_
    rintro r w5 ⟨hr, hB5⟩
    rw [HGM.out] at hr; subst hr
    replace HM := HM.below hB5
    replace HL := HL.below hB5
    replace M2 := M2.below hB5
    replace BB := Below.stp BB hB5
    clear hB5
    go_wp2_with fail
    refine (numberOf_any _ _ _ _ HM hl2).mono ?_
    rintro r w6 ⟨n, rfl, hn, hw6⟩
    rw [hw6]
    clear hw6 w6
    have hkl : n % (zs.length + 1) ≤ zs.length := by have := Nat.mod_lt n (show 0 < zs.length + 1 by omega); omega
    have hmod : Int.tmod (n : Int) ((zs.length : Int) + 1) = ((n % (zs.length + 1) : Nat) : Int) := by
      rw [Int.tmod_eq_emod_of_nonneg (by omega)]; simp
    have hmod2 : (n : Int) % ((zs.length : Int) + 1) = ((n % (zs.length + 1) : Nat) : Int) := by simp
    have hne0 : ((zs.length : Int) + 1 == 0) = false := by simp; omega
    obtain ⟨k, hk⟩ : ∃ k, n % (zs.length + 1) = k := ⟨_, rfl⟩
    rw [hk] at hkl hmod hmod2
    clear hk
    have hkI : (k : Int) ≤ (zs.length : Int) := by omega
    go_wp2_with fail
    have HCM : Hid (cmL ms (k : Int) = marksL (zs.take k) ∧ cmOk ms (k : Int) = true) := by
      have hin : inB (k : Int) 0 30 = true := inB_t.2 (by omega)
      refine ⟨?_, by unfold cmOk; rw [HGM.out, hin]; rfl⟩
      unfold cmL; rw [HGM.out, hin, HMM.out]
      exact cut_marks hkl
    have HTK : Hid (moL (zs.take k) = marksL (zs.take k) ∧ goodE (zs.take k) = true) := by
      have hg := goodE_take (n := k) HGD.out
      exact ⟨by unfold moL; rw [hg]; rfl, hg⟩
    have hlk : (marksL (zs.take k)).length ≤ 31 := by have := marksL_len HTK.out.2; omega
    obtain ⟨ls, hls⟩ : ∃ ls, marksL (zs.take k) = ls := ⟨_, rfl⟩
    have HCM2 : Hid (cmL ms (k : Int) = ls ∧ cmOk ms (k : Int) = true) := by have := HCM.out; rwa [hls] at this
    have HTK2 : Hid (moL (zs.take k) = ls ∧ goodE (zs.take k) = true) := by have := HTK.out; rwa [hls] at this
    rw [hls] at hlk
    clear hls HCM HTK
    refine (implCM_any _ _ _ _ _ M2 hmm).mono ?_
    intro r w6 h6
    rw [HCM2.out.1, HCM2.out.2] at h6
    obtain ⟨a6, c6, rfl, M6, -, hB6⟩ := mo_ans h6
    replace HM := HM.below hB6
    replace HL := HL.below hB6
    replace M2 := M2.below hB6
    replace BB := Below.stp BB hB6
    clear hB6 h6
    have HTKL : Hid ((zs.take k).length = k) := by show _ = _; rw [List.length_take]; omega
    have HT := HL.take k
    have HCALL : Hid (∀ (cx : Nat), Calls Try.prog 17 #[.slice a1 k cx] w6 fun e w' => MoAns w6 ls true e w') := fun cx => by
      have := implMO_any a1 cx (zs.take k) w6 HT (by rw [HTKL.out]; unfold maxLen; omega)
      rw [HTKL.out, HTK2.out.1, HTK2.out.2] at this
      exact this
    clear HT
    rcases hcap with ⟨ha1, hz0, hc0⟩ | ⟨hcap, g1, ha1⟩
    · subst ha1 hc0
      obtain rfl : k = 0 := by omega
      obtain rfl : zs = [] := List.eq_nil_of_length_eq_zero hz0
      clear hz0
      go_wp2_with fail
      refine (HCALL.out _).mono ?_
      intro r w7 h7
      obtain ⟨a7, c7, rfl, M7, -, hB7⟩ := mo_ans h7
      replace HM := HM.below hB7
      replace HL := HL.below hB7
      replace M2 := M2.below hB7
      replace M6 := M6.below hB7
      replace BB := Below.stp BB hB7
      clear hB7 h7
      go_wp2_with fail
      refine (sameMarks_same _ _ _ _ _ _ M6 M7 (by omega)).mono ?_
      rintro r w8 ⟨rfl, hB8⟩
      replace HM := HM.below hB8
      replace HL := HL.below hB8
      replace M2 := M2.below hB8
      replace BB := Below.stp BB hB8
      clear hB8 M6 M7
      go_wp2_with fail
      go_loopw [99] (fun iv wr => iv = .int .i64 0 ∧ wr = w8) (fun _ _ => 0)
      case atStart => exact ⟨rfl, rfl⟩
      case round =>
        obtain ⟨rfl, rfl⟩ := hrel
        go_wp2_with fail
        refine (drawEnd_any _ _ _ _ HM hl2).mono ?_
        rintro r t1 ⟨v1, xs, n1, p1, rfl, hx1, own1, hB1⟩
        obtain ⟨b1, d1, rfl⟩ := ownsM_form own1
        have MX := (mks_of_owns own1).1
        replace HM := HM.below hB1
        replace BB := Below.stp BB hB1
        have hxm : xs.length ≤ maxLen := by unfold maxLen; omega
        clear own1 hB1
        obtain ⟨⟨q1, q2, q3⟩, hq⟩ : ∃ r, eeR xs n1 p1 = r := ⟨_, rfl⟩
        have HQ : Hid (eeR xs n1 p1 = (q1, q2, q3)) := hq
        clear hq
        go_wp2_with fail
        refine (implEE_any _ _ _ _ _ _ MX hxm).mono ?_
        rintro r t2 ⟨hr, hB2⟩
        rw [HQ.out] at hr; simp only [eeV] at hr; subst hr
        replace HM := HM.below hB2
        replace MX := MX.below hB2
        replace BB := Below.stp BB hB2
        clear hB2
        go_wp2_with fail
        refine (specEE_any _ _ _ _ _ _ MX hxm).mono ?_
        rintro r t3 ⟨hr, hB3⟩
        rw [HQ.out] at hr; simp only [eeV] at hr; subst hr
        replace HM := HM.below hB3
        replace MX := MX.below hB3
        replace BB := Below.stp BB hB3
        clear hB3
        go_wp2_with fail
        refine (drawCut_any _ _ _ _ HM hl2).mono ?_
        rintro r t4 ⟨v4, ys, n4, rfl, hx4, own4, hB4⟩
        obtain ⟨b4, d4, rfl⟩ := ownsM_form own4
        have MY := (mks_of_owns own4).1
        replace MX := MX.below hB4
        replace BB := Below.stp BB hB4
        have hym : ys.length ≤ maxLen := by unfold maxLen; omega
        clear own4 hB4 HM
        have hcl := Nat.le_trans (cmL_len' ys n4) hx4
        obtain ⟨cs, hcs⟩ : ∃ cs, cmL ys n4 = cs := ⟨_, rfl⟩
        obtain ⟨co, hco⟩ : ∃ co, cmOk ys n4 = co := ⟨_, rfl⟩
        have HCS : Hid (cmL ys n4 = cs ∧ cmOk ys n4 = co) := ⟨hcs, hco⟩
        rw [hcs] at hcl
        clear hcs hco
        go_wp2_with fail
        refine (implCM_any _ _ _ _ _ MY hym).mono ?_
        intro r t5 h5
        rw [HCS.out.1, HCS.out.2] at h5
        obtain ⟨b5, d5, rfl, M5, -, hB5⟩ := mo_ans h5
        replace MX := MX.below hB5
        replace MY := MY.below hB5
        replace BB := Below.stp BB hB5
        clear hB5 h5
        go_wp2_with fail
        refine (specCM_any _ _ _ _ _ MY hym).mono ?_
        intro r t6 h6
        rw [HCS.out.1, HCS.out.2] at h6
        obtain ⟨b6, d6, rfl, M6, -, hB6⟩ := mo_ans h6
        replace MX := MX.below hB6
        replace M5 := M5.below hB6
        replace BB := Below.stp BB hB6
        clear hB6 h6 MY
        have hc1 : (q3 == q3) = true := by simp
        have hc2 : (co == co) = true := by simp
        go_wp2_with fail
        refine (sameMarks_same _ _ _ _ _ _ M5 M6 (by omega)).mono ?_
        rintro r t7 ⟨rfl, hB7⟩
        replace MX := MX.below hB7
        replace BB := Below.stp BB hB7
        clear hB7 M5 M6
        obtain ⟨gm, hgm⟩ : ∃ gm, goodM xs = gm := ⟨_, rfl⟩
        have HGM : Hid (goodM xs = gm) := hgm
        have hgq : (gm == gm) = true := by simp
        clear hgm
        go_wp2_with fail
        refine (implGoodM_any _ _ _ _ MX hxm).mono ?_
        rintro r t8 ⟨hr, hB8⟩
        rw [HGM.out] at hr; subst hr
        replace MX := MX.below hB8
        replace BB := Below.stp BB hB8
        clear hB8
        go_wp2_with fail
        refine (specGoodM_any _ _ _ _ MX hxm).mono ?_
        rintro r t9 ⟨hr, hB9⟩
        rw [HGM.out] at hr; subst hr
        replace BB := Below.stp BB hB9
        clear hB9
        go_wp2
        go_ret
        exact ⟨ret_bool (by simp), BB⟩
    · subst ha1
      have hkc : (k : Int) ≤ (c1 : Int) := by omega
      go_wp2_with fail
      refine (HCALL.out _).mono ?_
      intro r w7 h7
      obtain ⟨a7, c7, rfl, M7, -, hB7⟩ := mo_ans h7
      replace HM := HM.below hB7
      replace HL := HL.below hB7
      replace M2 := M2.below hB7
      replace M6 := M6.below hB7
      replace BB := Below.stp BB hB7
      clear hB7 h7
      go_wp2_with fail
      refine (sameMarks_same _ _ _ _ _ _ M6 M7 (by omega)).mono ?_
      rintro r w8 ⟨rfl, hB8⟩
      replace HM := HM.below hB8
      replace HL := HL.below hB8
      replace M2 := M2.below hB8
      replace BB := Below.stp BB hB8
      clear hB8 M6 M7
      go_wp2_with fail
      go_loopw [99] (fun iv wr => ∃ i : Nat, i ≤ zs.length ∧ iv = .int .i64 (i : Int) ∧ Below w8.heap.size w8 wr) (fun iv _ => zs.length - (intOf iv).toNat)
      case atStart => exact ⟨0, Nat.zero_le _, rfl, Below.refl _ _⟩
      case round =>
        obtain ⟨i, hi, rfl, hBr⟩ := hrel
        by_cases hlt : i < zs.length
        · obtain ⟨b1, o1, e1, ci⟩ := (HL.below hBr) i _ (zA_get hlt)
          simp only [Option.some.injEq, Addr.mk.injEq, and_true] at e1
          obtain ⟨rfl, rfl⟩ := e1
          rw [Nat.zero_add] at ci
          obtain ⟨c, hee, hic, hcl, hgt, hla⟩ := ee_entry HGD.out hlt
          rw [← HMM.out] at hee
          obtain ⟨d, rfl⟩ : ∃ d, c = d + 1 := ⟨c - 1, by omega⟩
          rw [Nat.add_sub_cancel] at hla
          have HD := (HL.below hBr) d _ (zA_get (by omega))
          rw [hla] at HD
          obtain ⟨e, he⟩ : ∃ e, zA zs i = e := ⟨_, rfl⟩
          rw [he] at hee ci HD hgt
          have HEE : Hid (eeR ms zs.length e = (e, ((d + 1 : Nat) : Int), true)) := hee
          have hiI : (i : Int) < (zs.length : Int) := by omega
          clear hee he hla
          go_wp2_with fail
          refine (implEE_any _ _ _ _ _ _ (M2.below hBr) hmm).mono ?_
          rintro r w9 ⟨hr, hB9⟩
          rw [HEE.out] at hr; simp only [eeV] at hr; subst hr
          replace hBr := Below.stp hBr hB9
          obtain ⟨b2, o2, e2, cd⟩ := HD
          simp only [Option.some.injEq, Addr.mk.injEq, and_true] at e2
          obtain ⟨rfl, rfl⟩ := e2
          rw [Nat.zero_add] at cd
          replace cd := (hB9.cell (p := ⟨g1, d, none⟩) (lt_of_cell cd)).trans cd
          have k1 : ((d + 1 : Nat) : Int) - 1 = (d : Int) := by omega
          have k2 : ¬ (((d + 1 : Nat) : Int) ≤ (i : Int)) := by omega
          have k3 : (d : Int) < (zs.length : Int) := by omega
          have k4 : (e != e) = false := by simp
          by_cases hend : d + 1 < zs.length
          · obtain ⟨b3, o3, e3, cn⟩ := (HL.below hBr) (d + 1) _ (zA_get hend)
            simp only [Option.some.injEq, Addr.mk.injEq, and_true] at e3
            obtain ⟨rfl, rfl⟩ := e3
            rw [Nat.zero_add] at cn
            have hgt := hgt hend
            have k5 : ¬ (zA zs (d + 1) ≤ e) := by omega
            have k6 : ((d + 1 : Nat) : Int) < (zs.length : Int) := by omega
            clear hB9 HM HL M2
            go_wp2
            go_roundw
            case rel => exact ⟨i + 1, by omega, by go_num, hBr⟩
            case measure => simp [intOf]; omega
          · have k6 : ¬ (((d + 1 : Nat) : Int) < (zs.length : Int)) := by omega
            clear hB9 HM HL M2 hgt
            go_wp2
            go_roundw
            case rel => exact ⟨i + 1, by omega, by go_num, hBr⟩
            case measure => simp [intOf]; omega
        · have hiI : ¬ ((i : Int) < (zs.length : Int)) := by omega
          replace HM := HM.below hBr
          replace BB := Below.stp BB hBr
          clear HL M2 hBr
          go_wp2_with fail
          refine (drawEnd_any _ _ _ _ HM hl2).mono ?_
          rintro r t1 ⟨v1, xs, n1, p1, rfl, hx1, own1, hB1⟩
          obtain ⟨b1, d1, rfl⟩ := ownsM_form own1
          have MX := (mks_of_owns own1).1
          replace HM := HM.below hB1
          replace BB := Below.stp BB hB1
          have hxm : xs.length ≤ maxLen := by unfold maxLen; omega
          clear own1 hB1
          obtain ⟨⟨q1, q2, q3⟩, hq⟩ : ∃ r, eeR xs n1 p1 = r := ⟨_, rfl⟩
          have HQ : Hid (eeR xs n1 p1 = (q1, q2, q3)) := hq
          clear hq
          go_wp2_with fail
          refine (implEE_any _ _ _ _ _ _ MX hxm).mono ?_
          rintro r t2 ⟨hr, hB2⟩
          rw [HQ.out] at hr; simp only [eeV] at hr; subst hr
          replace HM := HM.below hB2
          replace MX := MX.below hB2
          replace BB := Below.stp BB hB2
          clear hB2
          go_wp2_with fail
          refine (specEE_any _ _ _ _ _ _ MX hxm).mono ?_
          rintro r t3 ⟨hr, hB3⟩
          rw [HQ.out] at hr; simp only [eeV] at hr; subst hr
          replace HM := HM.below hB3
          replace MX := MX.below hB3
          replace BB := Below.stp BB hB3
          clear hB3
          go_wp2_with fail
          refine (drawCut_any _ _ _ _ HM hl2).mono ?_
          rintro r t4 ⟨v4, ys, n4, rfl, hx4, own4, hB4⟩
          obtain ⟨b4, d4, rfl⟩ := ownsM_form own4
          have MY := (mks_of_owns own4).1
          replace MX := MX.below hB4
          replace BB := Below.stp BB hB4
          have hym : ys.length ≤ maxLen := by unfold maxLen; omega
          clear own4 hB4 HM
          have hcl := Nat.le_trans (cmL_len' ys n4) hx4
          obtain ⟨cs, hcs⟩ : ∃ cs, cmL ys n4 = cs := ⟨_, rfl⟩
          obtain ⟨co, hco⟩ : ∃ co, cmOk ys n4 = co := ⟨_, rfl⟩
          have HCS : Hid (cmL ys n4 = cs ∧ cmOk ys n4 = co) := ⟨hcs, hco⟩
          rw [hcs] at hcl
          clear hcs hco
          go_wp2_with fail
          refine (implCM_any _ _ _ _ _ MY hym).mono ?_
          intro r t5 h5
          rw [HCS.out.1, HCS.out.2] at h5
          obtain ⟨b5, d5, rfl, M5, -, hB5⟩ := mo_ans h5
          replace MX := MX.below hB5
          replace MY := MY.below hB5
          replace BB := Below.stp BB hB5
          clear hB5 h5
          go_wp2_with fail
          refine (specCM_any _ _ _ _ _ MY hym).mono ?_
          intro r t6 h6
          rw [HCS.out.1, HCS.out.2] at h6
          obtain ⟨b6, d6, rfl, M6, -, hB6⟩ := mo_ans h6
          replace MX := MX.below hB6
          replace M5 := M5.below hB6
          replace BB := Below.stp BB hB6
          clear hB6 h6 MY
          have hc1 : (q3 == q3) = true := by simp
          have hc2 : (co == co) = true := by simp
          go_wp2_with fail
          refine (sameMarks_same _ _ _ _ _ _ M5 M6 (by omega)).mono ?_
          rintro r t7 ⟨rfl, hB7⟩
          replace MX := MX.below hB7
          replace BB := Below.stp BB hB7
          clear hB7 M5 M6
          obtain ⟨gm, hgm⟩ : ∃ gm, goodM xs = gm := ⟨_, rfl⟩
          have HGM : Hid (goodM xs = gm) := hgm
          have hgq : (gm == gm) = true := by simp
          clear hgm
          go_wp2_with fail
          refine (implGoodM_any _ _ _ _ MX hxm).mono ?_
          rintro r t8 ⟨hr, hB8⟩
          rw [HGM.out] at hr; subst hr
          replace MX := MX.below hB8
          replace BB := Below.stp BB hB8
          clear hB8
          go_wp2_with fail
          refine (specGoodM_any _ _ _ _ MX hxm).mono ?_
          rintro r t9 ⟨hr, hB9⟩
          rw [HGM.out] at hr; subst hr
          replace BB := Below.stp BB hB9
          clear hB9
          go_wp2
          go_ret
          exact ⟨ret_bool (by simp), BB⟩

end Go.Proofs.Ytgmcllfdhkjafaa
