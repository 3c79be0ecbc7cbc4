/-
  Coteries that dominate: the contract of impl.Dominates.
-/
import Derived.Test.YtdibddkhjefmlaaDoorQTop
namespace Go.Proofs.YtdibddkhjefmlaaDoor
open Go.RowKit

set_option maxHeartbeats 4000000 in
theorem implDom_any (a a2 : Option Addr) (c c2 : Nat) (A B : List (List Int)) (w : World) (ha : Intss w a A) (hb : Intss w a2 B) (hl : A.length ≤ maxLen) (hl2 : B.length ≤ maxLen) :
    Calls Tryd.prog 15 #[.slice a A.length c, .slice a2 B.length c2] w fun e w' => e = .returned (.tuple #[.bool (domOk A B && (eachL A B && !eachL B A)), .bool (domOk A B)]) ∧ Below w.heap.size w w' := by
  go_enter Tryd.func15, Tryd.ntmps15
  go_wp2_with fail
  refine (groupsFrom_any _ _ _ _ _ ha hl (by omega)).mono ?_
  rintro r w1 (⟨hg, rfl, hB⟩ | ⟨hg, a1, c1, rfl, hc, hm, hS, hB⟩)
  · have HG : Hid (domOk A B = false) := by show _ = _; simp [domOk, hg]
    have hb1 := hb.below hB
    clear hg
    go_wp2_with fail
    refine (groupsFrom_any _ _ _ _ _ hb1 hl2 (by omega)).mono ?_
    rintro r w2 (⟨-, rfl, hB2⟩ | ⟨-, a3, c3, rfl, -, -, -, hB2⟩)
    all_goals
      go_wp2
      go_ret2
      exact ⟨by rw [HG.out]; rfl, hB.trans (hB2.mono hB.size)⟩
  · have GA : Hid (goodL A 7 = true) := hg
    have hlA := good_len hg
    have hb1 := hb.below hB
    clear hg
    go_wp2_with fail
    refine (groupsFrom_any _ _ _ _ _ hb1 hl2 (by omega)).mono ?_
    rintro r w2 (⟨hg, rfl, hB2⟩ | ⟨hg, a3, c3, rfl, hc3, hm3, hS3, hB2⟩)
    · have HG : Hid (domOk A B = false) := by show _ = _; simp [domOk, hg]
      clear hg
      go_wp2
      go_ret2
      exact ⟨by rw [HG.out]; rfl, hB.trans (hB2.mono hB.size)⟩
    · have GB : Hid (goodL B 7 = true) := hg
      have hlB := good_len hg
      have hSA := hS.below hB2
      have BB := hB.trans (hB2.mono hB.size)
      clear hg hS hB hB2 hb1 ha hb
      generalize h3 : coN (mskL A) = g3
      have H3 : Hid (coN (mskL A) = g3) := h3
      generalize h4 : coN (mskL B) = g4
      have H4 : Hid (coN (mskL B) = g4) := h4
      generalize h5 : ehO (mskL B) (mskL A) = g5
      have H5 : Hid (ehO (mskL B) (mskL A) = g5) := h5
      clear h3 h4 h5
      have HD : Hid (domOk A B = (g3 && g4)) := by show _ = _; rw [← H3.out, ← H4.out, co_cot GA.out, co_cot GB.out, domOk, GA.out, GB.out]; rfl
      go_wp2_with fail
      refine (isCoterie_any _ _ _ _ hSA hlA hc hm).mono ?_
      rintro r w3 ⟨hr, hB3⟩
      rw [H3.out] at hr
      subst hr
      have hSA3 := hSA.below hB3
      have hSB3 := hS3.below hB3
      have BB3 := BB.trans (hB3.mono BB.size)
      clear hSA hS3 hB3 BB
      cases g3 with
      | false =>
        go_wp2
        go_ret2
        exact ⟨by rw [HD.out]; rfl, BB3⟩
      | true =>
      go_wp2_with fail
      refine (isCoterie_any _ _ _ _ hSB3 hlB hc3 hm3).mono ?_
      rintro r w4 ⟨hr, hB4⟩
      rw [H4.out] at hr
      subst hr
      have hSA4 := hSA3.below hB4
      have hSB4 := hSB3.below hB4
      have BB4 := BB3.trans (hB4.mono BB3.size)
      clear hSA3 hSB3 hB4 BB3
      cases g4 with
      | false =>
        go_wp2
        go_ret2
        exact ⟨by rw [HD.out]; rfl, BB4⟩
      | true =>
      go_wp2_with fail
      refine (eachHasOne_any _ _ _ _ _ _ _ hSB4 hSA4 hlB hlA).mono ?_
      rintro r w5 ⟨hr, hB5⟩
      rw [H5.out] at hr
      subst hr
      have hSA5 := hSA4.below hB5
      have hSB5 := hSB4.below hB5
      have BB5 := BB4.trans (hB5.mono BB4.size)
      clear hSA4 hSB4 hB5 BB4
      cases g5 with
      | false =>
        go_wp2
        go_ret2
        exact ⟨by rw [HD.out, ← eh_each GA.out GB.out, H5.out]; rfl, BB5⟩
      | true =>
      go_wp2_with fail
      refine (eachHasOne_any _ _ _ _ _ _ _ hSA5 hSB5 hlA hlB).mono ?_
      rintro r w6 ⟨rfl, hB6⟩
      go_wp2
      go_ret2
      exact ⟨by rw [HD.out, ← eh_each GA.out GB.out, ← eh_each GB.out GA.out, H5.out]; rfl, BB5.trans (hB6.mono BB5.size)⟩

end Go.Proofs.YtdibddkhjefmlaaDoor
