/-
  The walk of the law FnOrders, where the table of math/bits holds what its initialiser lays: for every two lists of bytes it answers true. Made by mkordl.py.
-/
import Derived.Test.YtmbfdonefpegeaaDoorOrdG
import Derived.Test.YtmbfdonefpegeaaDoorOrdM
import Derived.Test.YtmbfdonefpegeaaDoorHiI6f
import Derived.Test.YtmbfdonefpegeaaDoorHiI3
import Derived.Test.YtmbfdonefpegeaaDoorHiI4
import Derived.Test.YtmbfdonefpegeaaDoorHiI5
import Derived.Deep.Cut
import Derived.Deep.CutRange
namespace Go.Proofs.YtmbfdonefpegeaaDoor
open Go.RowKit

theorem ovA_ne {l : List Cl} {n : Nat} (hg : goodCl l = true) (h : 2 * ovTo l l.length < l.length * (l.length - 1)) (hn : ovTo l l.length = n) : 1 < l.length ∧ l.length ≤ 7 ∧ (l.length = 2 → n < 1) ∧ (l.length = 3 → n < 3) ∧ (l.length = 4 → n < 6) ∧ (l.length = 5 → n < 10) ∧ (l.length = 6 → n < 15) ∧ (l.length = 7 → n < 21) := by
  have h7 := (goodCl_t hg).2
  rw [hn] at h
  generalize l.length = m at *
  refine ⟨?_, h7, ?_, ?_, ?_, ?_, ?_, ?_⟩
  · rcases (by omega : m = 0 ∨ m = 1 ∨ 1 < m) with e | e | e
    · rw [e] at h; omega
    · rw [e] at h; omega
    · exact e
  all_goals
    intro e
    rw [e] at h
    omega

set_option maxRecDepth 100000 in
set_option maxHeartbeats 16000000 in
theorem lawOrdersF_any (a a2 : Option Addr) (c c2 : Nat) (bs bs2 : List UInt8) (w : World) (hs : Bys w a bs) (hs2 : Bys w a2 bs2) (hm : bs.length ≤ 140737488351232) (hm2 : bs2.length ≤ 140737488351232) (hT : TabQ w) :
    Calls Tryd.prog 3 #[.slice a bs.length c, .slice a2 bs2.length c2] w fun r w' => r = .returned (.bool true) ∧ Below w.heap.size w w' := by
  by_cases hbig : 1048576 < bs.length + bs2.length
  · have hbI : (1048576 : Int) < (bs.length : Int) + (bs2.length : Int) := by omega
    go_enter Tryd.func3, Tryd.ntmps3
    go_wp2
    go_ret
    exact ⟨rfl, Below.refl _ _⟩
  have hbI : (bs.length : Int) + (bs2.length : Int) ≤ (1048576 : Int) := by omega
  have hl1 : bs.length ≤ 1048576 := by omega
  have hl2 : bs2.length ≤ 1048576 := by omega
  clear hbig
  go_enter Tryd.func3, Tryd.ntmps3
  go_wp2_with fail
  refine (drawIL_any _ _ _ _ hs hl1).mono ?_
  rintro r w1 ⟨av, cv, l, bv, dv, zs, rfl, hE1, hZ1, hcv, hdv, h8, hz8, B1⟩
  have hlm : l.length ≤ maxLen := by unfold maxLen; omega
  have hzm : zs.length ≤ maxLen := by unfold maxLen; omega
  obtain ⟨A, hA⟩ : ∃ b, lglA l zs = b := ⟨_, rfl⟩
  obtain ⟨O, hO⟩ : ∃ b, isB l zs = b := ⟨_, rfl⟩
  obtain ⟨R, hR⟩ : ∃ b, rspA l zs = b := ⟨_, rfl⟩
  have HA : Hid (lglA l zs = A) := hA
  have HO : Hid (isB l zs = O) := hO
  have HR : Hid (rspA l zs = R) := hR
  have H1 : Hid (∀ wx, Cls wx av l → Ints wx bv zs → Calls Tryd.prog 5 #[.slice av l.length cv, .slice bv zs.length dv] wx fun r w' => r = .returned (.tuple #[.bool A, .bool O]) ∧ Below wx.heap.size wx w') := fun wx h1 h2 => by rw [← hA, ← hO]; exact implIsLegal_any av bv cv dv l zs wx h1 h2 hlm hzm hcv hdv
  have H2 : Hid (∀ wx, Cls wx av l → Ints wx bv zs → Calls Tryd.prog 6 #[.slice av l.length cv, .slice bv zs.length dv] wx fun r w' => r = .returned (.tuple #[.bool A, .bool O]) ∧ Below wx.heap.size wx w') := fun wx h1 h2 => by rw [← hA, ← hO]; exact specIsLegal_any av bv cv dv l zs wx h1 h2 hlm hzm hcv hdv
  have H3 : Hid (∀ wx, Cls wx av l → Ints wx bv zs → Calls Tryd.prog 7 #[.slice av l.length cv, .slice bv zs.length dv] wx fun r w' => r = .returned (.tuple #[.bool R, .bool O]) ∧ Below wx.heap.size wx w') := fun wx h1 h2 => by rw [← hR, ← hO]; exact implRespectsTime_any av bv cv dv l zs wx h1 h2 hlm hzm hcv hdv
  have H4 : Hid (∀ wx, Cls wx av l → Ints wx bv zs → Calls Tryd.prog 8 #[.slice av l.length cv, .slice bv zs.length dv] wx fun r w' => r = .returned (.tuple #[.bool R, .bool O]) ∧ Below wx.heap.size wx w') := fun wx h1 h2 => by rw [← hR, ← hO]; exact specRespectsTime_any av bv cv dv l zs wx h1 h2 hlm hzm hcv hdv
  clear hA hO hR
  go_wp2_with fail
  refine (H1.out _ hE1 hZ1).mono ?_
  rintro r w2 ⟨rfl, hB2⟩
  have B2 := stHi B1 hB2
  have hE2 := hE1.below hB2
  have hZ2 := hZ1.below hB2
  clear hE1 hZ1 hB2 B1 H1
  go_wp2_with fail
  refine (H2.out _ hE2 hZ2).mono ?_
  rintro r w3 ⟨rfl, hB3⟩
  have B3 := stHi B2 hB3
  have hE3 := hE2.below hB3
  have hZ3 := hZ2.below hB3
  clear hE2 hZ2 hB3 B2 H2
  go_wp2_with fail
  refine (H3.out _ hE3 hZ3).mono ?_
  rintro r w4 ⟨rfl, hB4⟩
  have B4 := stHi B3 hB4
  have hE4 := hE3.below hB4
  have hZ4 := hZ3.below hB4
  clear hE3 hZ3 hB4 B3 H3
  go_wp2_with fail
  refine (H4.out _ hE4 hZ4).mono ?_
  rintro r w5 ⟨rfl, hB5⟩
  have B5 := stHi B4 hB5
  have hE5 := hE4.below hB5
  have hZ5 := hZ4.below hB5
  clear hE4 hZ4 hB5 B4 H4
  have hAA : (A != A) = false := by cases A <;> rfl
  have hOO : (O != O) = false := by cases O <;> rfl
  have hRR : (R != R) = false := by cases R <;> rfl
  go_upto_region 10 with fail
  go_cut [85] from 79 (fun s wx => s = .bool (O && (A && R)) ∧ wx = w5)
  case first =>
    cases O <;> cases A <;> cases R
    all_goals
      go_wp2
      go_meet
      exact ⟨rfl, rfl⟩
  obtain ⟨rfl, hcw⟩ := hcut
  have hcw2 := hcw.symm
  subst hcw2
  go_upto_if 85 with fail
  go_cut [] from 79 (fun wx => Below w5.heap.size w5 wx)
  case first =>
    by_cases hall : O = true ∧ A = true ∧ R = true
    · obtain ⟨rfl, rfl, rfl⟩ := hall
      have hgo : goodCl l = true ∧ ordB l.length zs = true := by have := HO.out; simpa [isB] using this
      have hlg : legB l zs = true := by have := HA.out; simpa [lglA, isB, hgo.1, hgo.2] using this
      have hrt : rspB l zs = true := by have := HR.out; simpa [rspA, isB, hgo.1, hgo.2] using this
      obtain ⟨k1, k2⟩ := find_least hgo.1 hgo.2 hlg hrt l.length [] (by simp) (fun i hi => by simp at hi)
      have hfb := ordFor_good hgo.1 (b := true) (decide_eq_true k1)
      have hzl := (ordB_t hgo.2).2
      have HOF := implOrderFor_any av cv l w5 hE5 hlm hcv (hT.bel B5)
      rw [hfb.1, hfb.2, if_pos rfl] at HOF
      obtain ⟨X, hX⟩ : ∃ X, fndL l false = X := ⟨_, rfl⟩
      have hXl : X.length = l.length := by rw [← hX]; exact k1
      have HLE : Hid (lexLe l.length X zs) := by rw [← hX]; exact k2
      rw [hX] at HOF
      have HXL : Hid (X.length = l.length) := hXl
      have HZL : Hid (zs.length = l.length) := hzl
      have HX8 : Hid (X.length ≤ 8) := by show _ ≤ _; omega
      have hXz : ((X.length : Int) != (zs.length : Int)) = false := by rw [hXl, hzl]; simp
      clear k1 k2 hfb hX hgo hlg hrt hXl hzl HA HO HR
      go_wp2_with fail
      refine HOF.mono ?_
      rintro r w6 ⟨ax, cx, rfl, hI6, -, hB6⟩
      have hZ6 := hZ5.below hB6
      clear HOF
      go_wp2_with fail
      go_loopw [102] (fun i wr => ∃ k : Nat, k ≤ X.length ∧ i = .int .i64 (k : Int) ∧ Hid (∀ j, j < k → zA X j = zA zs j) ∧ Below w6.heap.size w6 wr) (fun i _ => X.length - (intOf i).toNat)
      case atStart => exact ⟨0, Nat.zero_le _, rfl, fun j hj => absurd hj (Nat.not_lt_zero _), Below.refl _ _⟩
      case round =>
        obtain ⟨k, hk, rfl, HJ, hB⟩ := hrel
        have BX := stHi hB6 hB
        by_cases hlt : k < X.length
        · have hkz : k < zs.length := by have := HXL.out; have := HZL.out; omega
          obtain ⟨xb, xo, rfl, c0⟩ := (hI6.below hB) k _ (zA_get hlt)
          obtain ⟨yb, yo, rfl, d0⟩ := (hZ6.below hB) k _ (zA_get hkz)
          have hle := HLE.out k (by have := HXL.out; omega) HJ.out
          have hki : (k : Int) < (X.length : Int) := by omega
          have hkzi : (k : Int) < (zs.length : Int) := by omega
          have hdr : Below wr.heap.size wr wr.drew := (Below.refl _ _).drew
          have HNX : Hid (zA X k = zA zs k → ∀ j, j < k + 1 → zA X j = zA zs j) := fun e j hj => by
            rcases Nat.lt_or_eq_of_le (Nat.le_of_lt_succ hj) with h1 | rfl
            · exact HJ.out j h1
            · exact e
          generalize zA X k = x at *
          generalize zA zs k = y at *
          by_cases e : x = y
          · have d1 : (x != y) = false := by simp [e]
            have HN := (show Hid _ from HNX.out e)
            clear e hle HNX
            go_wp2_with fail
            go_region
            go_wp2
            go_roundw
            case rel => exact ⟨k + 1, by omega, by go_num, HN.out, stHi hB hdr⟩
            case measure => simp [intOf]; omega
          · have d1 : (x != y) = true := by simp [e]
            have d2 : decide (y < x) = false := by simp; omega
            have d3 : ¬ y < x := by omega
            clear e HNX hle
            go_wp2_with fail
            go_region
            obtain ⟨wy, hwy⟩ : ∃ x, wr.drew = x := ⟨_, rfl⟩
            have c1 := celB hdr c0
            have e1 := celB hdr d0
            rw [hwy] at c1 e1 hdr ⊢
            clear hwy
            have hdy : Below wy.heap.size wy wy.drew := (Below.refl _ _).drew
            go_wp2_with fail
            go_region
            go_wp2
            go_meet
            exact stHi (stHi BX hdr) hdy
        · obtain rfl : k = X.length := by omega
          go_wp2
          go_meet
          exact BX
    · cases O <;> cases A <;> cases R
      all_goals first
        | (exact absurd ⟨rfl, rfl, rfl⟩ hall)
        | (clear hall; go_wp2; go_meet; exact Below.refl _ _)
  case rest =>
    have B6 := stHi B5 hcut
    have hE6 := hE5.below hcut
    obtain ⟨w6, hw6⟩ : ∃ x, x = wc := ⟨_, rfl⟩
    subst hw6
    clear B5 hE5 hZ5 hcut
    obtain ⟨m, hm'⟩ : ∃ m, l.length = m := ⟨_, rfl⟩
    rw [hm']
    go_upto_region 21 with fail
    go_cut [128] from 124 (fun s wx => s = .bool (O && !R) ∧ wx = w6)
    case first =>
      cases O <;> cases R
      all_goals
        go_wp2
        go_meet
        exact ⟨rfl, rfl⟩
    obtain ⟨rfl, hcw⟩ := hcut
    have hcw2 := hcw.symm
    subst hcw2
    go_upto_if 128 with fail
    go_cut [] from 124 (fun wx => Below w6.heap.size w6 wx)
    case first =>
      by_cases hall : O = true ∧ R = false
      · obtain ⟨rfl, rfl⟩ := hall
        have hgo : goodCl l = true ∧ ordB l.length zs = true := by have := HO.out; simpa [isB] using this
        have hrt : rspB l zs = false := by have := HR.out; simpa [rspA, isB, hgo.1, hgo.2] using this
        have hlp := late_pair hgo.2 hrt
        obtain ⟨n, hn⟩ : ∃ n, ovTo l l.length = n := ⟨_, rfl⟩
        obtain ⟨g1, g2, g3⟩ := ovA_ne hgo.1 hlp hn
        have hov : ovA l = (n : Int) := by unfold ovA; rw [if_pos hgo.1, hn]
        have HOV := implOverlapsIn_any av cv l w6 hE6 hlm hcv
        rw [hov, hgo.1] at HOV
        rw [hm'] at HOV g1 g2 g3
        clear hov hn hlp hgo hrt HA HO HR
        rcases (by omega : m = 2 ∨ m = 3 ∨ m = 4 ∨ m = 5 ∨ m = 6 ∨ m = 7) with rfl | rfl | rfl | rfl | rfl | rfl
        all_goals
          have hv : n < 21 := by omega
          have e21 : ((n : Int) == 21) = false := by simp; omega
          first
            | (have q : ((n : Int) == 1) = false := by simp; omega)
            | skip
          first
            | (have q3 : ((n : Int) == 3) = false := by simp; omega)
            | skip
          first
            | (have q6 : ((n : Int) == 6) = false := by simp; omega)
            | skip
          first
            | (have q10 : ((n : Int) == 10) = false := by simp; omega)
            | skip
          first
            | (have q15 : ((n : Int) == 15) = false := by simp; omega)
            | skip
          clear hv g1 g2 g3
          go_wp2_with fail
          refine HOV.mono ?_
          rintro r w7 ⟨rfl, hB7⟩
          clear HOV
          go_wp2_with fail
          go_meet
          exact hB7
      · cases O <;> cases R
        all_goals first
          | (exact absurd ⟨rfl, rfl⟩ hall)
          | (clear hall; go_wp2; go_meet; exact Below.refl _ _)
    case rest =>
      subst hm'
      have B7 := stHi B6 hcut
      obtain ⟨w7, hw7⟩ : ∃ x, x = wc := ⟨_, rfl⟩
      subst hw7
      have hs7 := hs2.below B7
      clear B6 hE6 hcut HA HO HR
      go_wp2_with fail
      refine (drawOO_any _ _ _ _ hs7 hl2).mono ?_
      rintro r w8 ⟨mv, dm, m, z, rfl, hM8, hdm, h8m, hB8⟩
      have B8 := stHi B7 hB8
      have hmm : m.length ≤ maxLen := by unfold maxLen; omega
      have HI := implOnObject_any z mv dm m w8 hM8 hmm hdm
      have HSp : Hid (∀ wx, Cls wx mv m → Calls Tryd.prog 13 #[.slice mv m.length dm, .int .i64 z] wx fun r w' => ∃ a' c', r = .returned (.tuple #[.slice a' (onL m z).length c', .bool (onB m z)]) ∧ Cls w' a' (onL m z) ∧ RowCl w' wx.heap.size a' (onL m z).length ∧ Below wx.heap.size wx w') := fun wx h => specOnObject_any z mv dm m wx h hmm hdm
      have hol := onL_len m z
      generalize onL m z = X at *
      generalize onB m z = ok at *
      clear hB8 B7 hs7
      go_wp2_with fail
      refine HI.mono ?_
      rintro r w9 ⟨ax, cx, rfl, hX9, -, hB9⟩
      have B9 := stHi B8 hB9
      have hM9 := hM8.below hB9
      clear HI hM8 hB9 B8
      go_wp2_with fail
      refine (HSp.out _ hM9).mono ?_
      rintro r w10 ⟨ay, cy, rfl, hY10, -, hB10⟩
      have B10 := stHi B9 hB10
      have hX10 := hX9.below hB10
      have hkk : (ok == ok) = true := by cases ok <;> rfl
      clear HSp hM9 hX9 hB10 B9
      go_wp2_with fail
      refine (sameCalls_same _ _ _ _ X _ hX10 hY10 (by unfold maxLen; omega)).mono ?_
      rintro r w11 ⟨rfl, hB11⟩
      have B11 := stHi B10 hB11
      clear hX10 hY10 hB11 B10
      go_wp2
      go_ret
      exact ⟨rfl, B11⟩

end Go.Proofs.YtmbfdonefpegeaaDoor
