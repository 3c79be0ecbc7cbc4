/-
  The walk of the law FnPasts, where the tables of math/bits hold what their initialisers lay: for every two lists of bytes it answers true. Made by mkpstl.py.
-/
import Derived.Test.YtiabgomeogcpnaaDoorPstG
import Derived.Test.YtiabgomeogcpnaaDoorPstT
import Derived.Test.YtiabgomeogcpnaaDoorCPfK
import Derived.Test.YtiabgomeogcpnaaDoorHBfK
namespace Go.Proofs.YtiabgomeogcpnaaDoor
open Go.RowKit

theorem stP {w a b : World} (h : Below w.heap.size w a) (k : Below a.heap.size a b) : Below w.heap.size w b := h.trans (k.mono h.size)

set_option maxRecDepth 100000 in
set_option maxHeartbeats 16000000 in
theorem lawPastF_any (a a2 : Option Addr) (c c2 : Nat) (bs bs2 : List UInt8) (w : World) (hs : Bys w a bs) (hs2 : Bys w a2 bs2) (hm : bs.length ≤ 140737488351232) (hm2 : bs2.length ≤ 140737488351232) (hT : TabQ w) :
    Calls Tryd.prog 3 #[.slice a bs.length c, .slice a2 bs2.length c2] w fun r w' => r = .returned (.bool true) ∧ Below w.heap.size w w' := by
  by_cases hbig : 1048576 < bs.length + bs2.length
  · have hbI : (1048576 : Int) < (bs.length : Int) + (bs2.length : Int) := by omega
    go_enter Tryd.func3, Tryd.ntmps3
    go_wp2
    go_ret
    exact ⟨rfl, Below.refl _ _⟩
  have hbI : (bs.length : Int) + (bs2.length : Int) ≤ (1048576 : Int) := by omega
  have hl1 : bs.length ≤ 1048576 := by omega
  have hl2 : bs2.length ≤ 1048576 := by omega
  clear hbig
  go_enter Tryd.func3, Tryd.ntmps3
  go_wp2_with fail
  refine (drawCP_any _ _ _ _ hs hl1).mono ?_
  rintro r w1 ⟨m, av, cv, l, z, rfl, hE1, hcv, h25, B1⟩
  have hlm : l.length ≤ maxLen := by unfold maxLen; omega
  have hHB : Hid (∀ (k : Int) (wx : World), Evs wx av l → Calls Tryd.prog 8 #[.int .i64 m, .slice av l.length cv, .int .i64 k, .int .i64 z] wx fun r w' => r = .returned (.tuple #[.bool (hbV m l k z), .bool (hbB m l k z)]) ∧ Below wx.heap.size wx w') := fun k wx h => implHB_any m k z av l wx h hlm hcv
  have hCP : Hid (∀ (k : Int) (wx : World), Evs wx av l → TabQ wx → Calls Tryd.prog 5 #[.int .i64 m, .slice av l.length cv, .int .i64 k] wx fun r w' => PAnsB wx (cpL m l k) (thereB m l k) r w') := fun k wx h hT => implCP_any m k av l wx h hlm hT hcv
  have hT1 := hT.bel B1
  go_wp2_with fail
  refine (hCP.out z _ hE1 hT1).mono ?_
  rintro r w2 ⟨ap, cp, rfl, hP, -, hB2⟩
  have B2 := stP B1 hB2
  have hE2 := hE1.below hB2
  clear hE1 hT1
  have hPl := cpL_len m l z
  obtain ⟨P, hPe⟩ : ∃ P, cpL m l z = P := ⟨_, rfl⟩
  have HP : Hid (cpL m l z = P) := hPe
  obtain ⟨g, hg⟩ : ∃ g, thereB m l z = g := ⟨_, rfl⟩
  have HG : Hid (thereB m l z = g) := hg
  rw [hPe] at hP hPl
  rw [hPe, hg]
  clear hPe hg hB2
  go_wp2_with fail
  refine (specCP_any m z av l _ hE2 hlm hcv).mono ?_
  rintro r w3 ⟨aw, cw, rfl, hW, -, hB3⟩
  rw [HP.out] at hW
  rw [HP.out, HG.out]
  have B3 := stP B2 hB3
  have hE3 := hE2.below hB3
  have hP3 := hP.below hB3
  clear hE2 hP hB3 B2 B1
  have hgg : (g != g) = false := by cases g <;> rfl
  go_wp2_with fail
  refine (sameInts_same _ _ _ _ P _ hP3 hW (by unfold maxLen; omega)).mono ?_
  rintro r w4 ⟨rfl, mq, rfl⟩
  have hBd := below_drewN (Below.refl w3.heap.size w3) mq
  have B4 := stP B3 hBd
  have hE4 := hE3.below hBd
  have hP4 := hP3.below hBd
  clear hE3 hP3 hW hBd B3
  obtain ⟨w4, hw4⟩ : ∃ x, w3.drewN mq = x := ⟨_, rfl⟩
  rw [hw4] at B4 hE4 hP4 ⊢
  clear hw4
  have hT4 := hT.bel B4
  have hs24 := hs2.below B4
  cases g with
  | false =>
    go_wp2_with fail
    refine (drawHB_any _ _ _ _ hs24 hl2).mono ?_
    rintro r v1 ⟨m2, av2, cv2, l2, x2, y2, rfl, hF1, hcv2, h252, C1⟩
    have D1 := stP B4 C1
    have hlm2 : l2.length ≤ maxLen := by unfold maxLen; omega
    obtain ⟨hv, hhv⟩ : ∃ b, hbV m2 l2 x2 y2 = b := ⟨_, rfl⟩
    obtain ⟨hb, hhb⟩ : ∃ b, hbB m2 l2 x2 y2 = b := ⟨_, rfl⟩
    obtain ⟨hv2, hhv2⟩ : ∃ b, hbV m2 l2 y2 x2 = b := ⟨_, rfl⟩
    have hsym : hbB m2 l2 y2 x2 = hb := by rw [← hhb]; unfold hbB; rw [Bool.and_comm]
    have HO : Hid (hb = true → (hv && hv2) = false) := fun h => by rw [← hhv, ← hhv2]; exact past_one (by rw [hhb]; exact h)
    have H1 : Hid (∀ wx, Evs wx av2 l2 → Calls Tryd.prog 8 #[.int .i64 m2, .slice av2 l2.length cv2, .int .i64 x2, .int .i64 y2] wx fun r w' => r = .returned (.tuple #[.bool hv, .bool hb]) ∧ Below wx.heap.size wx w') := fun wx h => by rw [← hhv, ← hhb]; exact implHB_any m2 x2 y2 av2 l2 wx h hlm2 hcv2
    have H2 : Hid (∀ wx, Evs wx av2 l2 → Calls Tryd.prog 11 #[.int .i64 m2, .slice av2 l2.length cv2, .int .i64 x2, .int .i64 y2] wx fun r w' => r = .returned (.tuple #[.bool hv, .bool hb]) ∧ Below wx.heap.size wx w') := fun wx h => by rw [← hhv, ← hhb]; exact specHB_any m2 x2 y2 av2 l2 wx h hlm2 hcv2
    have H3 : Hid (∀ wx, Evs wx av2 l2 → Calls Tryd.prog 8 #[.int .i64 m2, .slice av2 l2.length cv2, .int .i64 y2, .int .i64 x2] wx fun r w' => r = .returned (.tuple #[.bool hv2, .bool hb]) ∧ Below wx.heap.size wx w') := fun wx h => by rw [← hhv2, ← hsym]; exact implHB_any m2 y2 x2 av2 l2 wx h hlm2 hcv2
    clear hhv hhb hhv2 hsym C1
    go_wp2_with fail
    refine (H1.out _ hF1).mono ?_
    rintro r v2 ⟨rfl, C2⟩
    have D2 := stP D1 C2
    have hF2 := hF1.below C2
    clear C2 hF1 D1 H1
    go_wp2_with fail
    refine (H2.out _ hF2).mono ?_
    rintro r v3 ⟨rfl, C3⟩
    have D3 := stP D2 C3
    have hF3 := hF2.below C3
    have hbb : (hb != hb) = false := by cases hb <;> rfl
    have hvv : (hv != hv) = false := by cases hv <;> rfl
    clear C3 hF2 D2 H2
    cases hb
    · go_wp2
      go_ret
      exact ⟨rfl, D3⟩
    · have hO := HO.out rfl
      go_wp2_with fail
      refine (H3.out _ hF3).mono ?_
      rintro r v4 ⟨rfl, C4⟩
      have D4 := stP D3 C4
      clear C4 hF3 D3 H3
      cases hv <;> cases hv2
      all_goals first
        | (exact absurd hO (by decide))
        | (go_wp2; go_ret; exact ⟨rfl, D4⟩)
  | true =>
    have HA : Hid (∀ k ∈ P, thereB m l k = true ∧ k < z ∧ hbB m l k z = true ∧ hbV m l k z = true ∧ (cpL m l k).length < P.length ∧ ∀ x ∈ cpL m l k, x ∈ P) := fun k hk => by rw [← HP.out] at hk ⊢; exact past_all HG.out k hk
    go_wp2
    go_loopw [68] (fun i wr => ∃ k : Nat, k ≤ P.length ∧ i = .int .i64 k ∧ Below w4.heap.size w4 wr) (fun i _ => P.length - (intOf i).toNat)
    case atStart => exact ⟨0, Nat.zero_le _, rfl, Below.refl _ _⟩
    case round =>
      obtain ⟨k, hk, rfl, hB⟩ := hrel
      by_cases hlt : k < P.length
      · obtain ⟨pb, po, rfl, pc⟩ := (hP4.below hB) k _ (zA_get hlt)
        obtain ⟨y, hy⟩ : ∃ y, zA P k = y := ⟨_, rfl⟩
        have hyP : y ∈ P := by rw [← hy]; exact List.mem_of_getElem? (zA_get hlt)
        obtain ⟨a1, a2', a3, a4, a5, a6⟩ := HA.out y hyP
        rw [hy] at pc
        have hki : (k : Int) < (P.length : Int) := by omega
        have dk1 : decide ((k : Int) < (P.length : Int)) = true := by simp; omega
        have dk2 : decide (k < P.length) = true := by simp; omega
        have HS : Hid (∀ x ∈ cpL m l y, x ∈ P) := a6
        have hQl := cpL_len m l y
        have hEr := hE4.below hB
        have hTr := hT4.bel hB
        clear hy hyP a6
        go_wp2_with fail
        refine (hCP.out y _ hEr hTr).mono ?_
        rintro r w5 ⟨aq, cq, rfl, hQ, -, hB5⟩
        have B5 := stP hB hB5
        have hE5 := hEr.below hB5
        obtain ⟨Q, hQe⟩ : ∃ Q, cpL m l y = Q := ⟨_, rfl⟩
        rw [hQe] at hQ a5 HS hQl
        rw [hQe, a1]
        clear hQe hB5 hEr hTr a1 pc
        go_wp2_with fail
        refine (hHB.out y _ hE5).mono ?_
        rintro r w6 ⟨rfl, hB6⟩
        have B6 := stP B5 hB6
        have hQ6 := hQ.below hB6
        have hP6 := hP4.below B6
        rw [a3, a4]
        clear hB6 hQ hE5 B5
        have hQI : (Q.length : Int) < (P.length : Int) := by omega
        have dd1 : decide (z ≤ y) = false := by simp; omega
        have dd2 : decide ((P.length : Int) ≤ (Q.length : Int)) = false := by simp; omega
        have dd3 : decide (P.length ≤ Q.length) = false := by simp; omega
        go_wp2
        go_loopw [111] (fun i wr2 => ∃ j : Nat, j ≤ Q.length ∧ i = .int .i64 j ∧ wr2 = w6) (fun i _ => Q.length - (intOf i).toNat)
        case atStart => exact ⟨0, Nat.zero_le _, rfl, rfl⟩
        case round =>
          obtain ⟨j, hj, rfl, hwr⟩ := hrel
          subst hwr
          by_cases hlt2 : j < Q.length
          · obtain ⟨qb, qo, rfl, qc⟩ := hQ6 j _ (zA_get hlt2)
            obtain ⟨x, hx⟩ : ∃ x, zA Q j = x := ⟨_, rfl⟩
            have hxP : P.contains x = true := List.contains_iff_mem.2 (HS.out x (by rw [← hx]; exact List.mem_of_getElem? (zA_get hlt2)))
            rw [hx] at qc
            have hji : (j : Int) < (Q.length : Int) := by omega
            clear hx
            go_wp2_with fail
            refine (hasZ_any _ _ P x true _ hP6 (by unfold maxLen; omega) hxP).mono ?_
            rintro r w7 ⟨rfl, hw7⟩
            rw [hw7]
            clear hw7 w7 hxP
            go_wp2
            go_roundw
            case rel => exact ⟨j + 1, by omega, by go_num, by first | trivial | rfl⟩
            case measure => simp [intOf]; omega
          · obtain rfl : j = Q.length := by omega
            go_wp2
            go_roundw
            case rel => exact ⟨k + 1, by omega, by go_num, B6⟩
            case measure => simp [intOf]; omega
      · obtain rfl : k = P.length := by omega
        have BX := stP B4 hB
        have hsX := hs24.below hB
        go_wp2_with fail
        refine (drawHB_any _ _ _ _ hsX hl2).mono ?_
        rintro r v1 ⟨m2, av2, cv2, l2, x2, y2, rfl, hF1, hcv2, h252, C1⟩
        have D1 := stP BX C1
        have hlm2 : l2.length ≤ maxLen := by unfold maxLen; omega
        obtain ⟨hv, hhv⟩ : ∃ b, hbV m2 l2 x2 y2 = b := ⟨_, rfl⟩
        obtain ⟨hb, hhb⟩ : ∃ b, hbB m2 l2 x2 y2 = b := ⟨_, rfl⟩
        obtain ⟨hv2, hhv2⟩ : ∃ b, hbV m2 l2 y2 x2 = b := ⟨_, rfl⟩
        have hsym : hbB m2 l2 y2 x2 = hb := by rw [← hhb]; unfold hbB; rw [Bool.and_comm]
        have HO : Hid (hb = true → (hv && hv2) = false) := fun h => by rw [← hhv, ← hhv2]; exact past_one (by rw [hhb]; exact h)
        have H1 : Hid (∀ wx, Evs wx av2 l2 → Calls Tryd.prog 8 #[.int .i64 m2, .slice av2 l2.length cv2, .int .i64 x2, .int .i64 y2] wx fun r w' => r = .returned (.tuple #[.bool hv, .bool hb]) ∧ Below wx.heap.size wx w') := fun wx h => by rw [← hhv, ← hhb]; exact implHB_any m2 x2 y2 av2 l2 wx h hlm2 hcv2
        have H2 : Hid (∀ wx, Evs wx av2 l2 → Calls Tryd.prog 11 #[.int .i64 m2, .slice av2 l2.length cv2, .int .i64 x2, .int .i64 y2] wx fun r w' => r = .returned (.tuple #[.bool hv, .bool hb]) ∧ Below wx.heap.size wx w') := fun wx h => by rw [← hhv, ← hhb]; exact specHB_any m2 x2 y2 av2 l2 wx h hlm2 hcv2
        have H3 : Hid (∀ wx, Evs wx av2 l2 → Calls Tryd.prog 8 #[.int .i64 m2, .slice av2 l2.length cv2, .int .i64 y2, .int .i64 x2] wx fun r w' => r = .returned (.tuple #[.bool hv2, .bool hb]) ∧ Below wx.heap.size wx w') := fun wx h => by rw [← hhv2, ← hsym]; exact implHB_any m2 y2 x2 av2 l2 wx h hlm2 hcv2
        clear hhv hhb hhv2 hsym C1
        go_wp2_with fail
        refine (H1.out _ hF1).mono ?_
        rintro r v2 ⟨rfl, C2⟩
        have D2 := stP D1 C2
        have hF2 := hF1.below C2
        clear C2 hF1 D1 H1
        go_wp2_with fail
        refine (H2.out _ hF2).mono ?_
        rintro r v3 ⟨rfl, C3⟩
        have D3 := stP D2 C3
        have hF3 := hF2.below C3
        have hbb : (hb != hb) = false := by cases hb <;> rfl
        have hvv : (hv != hv) = false := by cases hv <;> rfl
        clear C3 hF2 D2 H2
        cases hb
        · go_wp2
          go_ret
          exact ⟨rfl, D3⟩
        · have hO := HO.out rfl
          go_wp2_with fail
          refine (H3.out _ hF3).mono ?_
          rintro r v4 ⟨rfl, C4⟩
          have D4 := stP D3 C4
          clear C4 hF3 D3 H3
          cases hv <;> cases hv2
          all_goals first
            | (exact absurd hO (by decide))
            | (go_wp2; go_ret; exact ⟨rfl, D4⟩)

end Go.Proofs.YtiabgomeogcpnaaDoor
