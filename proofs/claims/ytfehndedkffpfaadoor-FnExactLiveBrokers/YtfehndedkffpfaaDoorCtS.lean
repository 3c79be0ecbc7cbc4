/-
  The control, the specification's side: GoodControl. Made by mkcts.py.
-/
import Derived.Test.YtfehndedkffpfaaDoorCtS0
namespace Go.Proofs.YtfehndedkffpfaaDoor
open Go.RowKit

set_option maxRecDepth 100000 in
set_option maxHeartbeats 16000000 in
theorem specGoodCt_any (s : Ct) (a0 a1 : Option Addr) (c0 c1 : Nat) (w : World) (hs : CtR w s a0 a1) (hl : CtL s) :
    Calls Tryd.prog 15 #[ctV s a0 c0 a1 c1] w fun e w' => e = .returned (.bool (goodCt s)) ∧ Below w.heap.size w w' := by
  have m0 := hl.brks
  have m1' := hl.parts
  unfold maxLen at m0 m1'
  obtain ⟨u0, hu0⟩ : ∃ u0, (w.alloc (.cells #[.slice a0 s.brks.length c0, .slice a1 s.parts.length c1, .int .i64 s.next] 33)) = u0 := ⟨_, rfl⟩
  have q0 : u0.cell? ⟨w.heap.size, 0, none⟩ = some (.slice a0 s.brks.length c0) := by rw [← hu0]; simp [go_sem]
  have q1 : u0.cell? ⟨w.heap.size, 1, none⟩ = some (.slice a1 s.parts.length c1) := by rw [← hu0]; simp [go_sem]
  have q2 : u0.cell? ⟨w.heap.size, 2, none⟩ = some (.int .i64 s.next) := by rw [← hu0]; simp [go_sem]
  have bB : Below w.heap.size w u0 := by rw [← hu0]; exact alCt _ _
  go_enter Tryd.func15, Tryd.ntmps15
  go_wp2
  clear hu0
  go_loopw [10] (fun i wr => ∃ k : Nat, k ≤ s.brks.length ∧ i = .int .i64 k ∧ Hid (allTo (okBr s.next) s.brks k) ∧ Below u0.heap.size u0 wr) (fun i _ => s.brks.length - (intOf i).toNat)
  case atStart => exact ⟨0, Nat.zero_le _, rfl, allTo_zero _ _, Below.refl _ _⟩
  case round =>
    obtain ⟨k, hk, rfl, HO, hB⟩ := hrel
    have p0 := celB hB q0
    have p1 := celB hB q1
    have p2 := celB hB q2
    by_cases hlt : k < s.brks.length
    · obtain ⟨b, hkb⟩ := getBr hlt
      obtain ⟨kb, ob, rfl, e0, e1, e2⟩ := ((hs.brks.below bB).below hB) k b hkb
      have HK : Hid (s.brks[k]? = some b) := hkb
      have hki : (k : Int) < (s.brks.length : Int) := by omega
      clear hkb
      have y2 : ∀ o, (wr.alloc o).cell? ⟨w.heap.size, 2, none⟩ = some (.int .i64 s.next) := fun o => celB (alCt wr o) p2
      by_cases h1 : b.epoch < 0
      · have h1' : ¬ 0 ≤ b.epoch := by omega
        have HE : Hid (goodCt s = false) := goodCt_1 (all_bad HK.out (by simp [okBr, h1']))
        go_wp2
        go_ret
        exact ⟨ret_bool HE.out.symm, stCt bB (stCt hB (alCt _ _))⟩
      have h1' : 0 ≤ b.epoch := by omega
      by_cases h2 : s.next ≤ b.epoch
      · have h2' : ¬ b.epoch < s.next := by omega
        have HE : Hid (goodCt s = false) := goodCt_1 (all_bad HK.out (by simp [okBr, h2']))
        go_wp2
        go_ret
        exact ⟨ret_bool HE.out.symm, stCt bB (stCt hB (alCt _ _))⟩
      have h2' : b.epoch < s.next := by omega
      cases h3 : inB b.left 0 9 with
      | false =>
        have HE : Hid (goodCt s = false) := goodCt_1 (all_bad HK.out (by simp [okBr, h3]))
        go_wp2_with (go_at_call 27; refine (l1In_k _ _ _ _ _ (by first | exact h3 | exact m1 | exact m3)).mono ?_; rintro e w' ⟨rfl, rfl⟩)
        go_ret
        exact ⟨ret_bool HE.out.symm, stCt bB (stCt hB (alCt _ _))⟩
      | true =>
        obtain ⟨y, hy⟩ : ∃ y, (b.left == 0) = y := ⟨_, rfl⟩
        have hy' : decide (b.left = 0) = y := by rw [← hy]; rw [Bool.eq_iff_iff]; simp
        obtain ⟨x, hx⟩ : ∃ x, b.fenced = x := ⟨_, rfl⟩
        rw [hx] at e2
        by_cases hxy : x = y
        · subst hxy
          have h4 : (b.fenced == decide (b.left = 0)) = true := by rw [hx, hy']; simp
          by_cases h5 : b.epoch = 0
          · have d5 : (b.epoch == 0) = true := by rw [h5]; rfl
            by_cases h6 : 0 < b.left
            · have h5' := h5
              clear hx hy' h5
              cases x
              all_goals
                have HE : Hid (goodCt s = false) := goodCt_1 (all_bad HK.out (by simp [okBr, h5', h6]))
                go_wp2_with (go_at_call 27; refine (l1In_k _ _ _ _ _ (by first | exact h3 | exact m1 | exact m3)).mono ?_; rintro e w' ⟨rfl, rfl⟩)
                go_ret
                exact ⟨ret_bool HE.out.symm, stCt bB (stCt hB (alCt _ _))⟩
            · have h5' := h5
              clear hx hy' h5
              cases x
              all_goals
                have HN : Hid (allTo (okBr s.next) s.brks (k + 1)) := allTo_succ HO.out HK.out (by simp only [okBr, h4, h3, decide_eq_true h1', decide_eq_true h2', decide_eq_false h6]; simp)
                go_wp2_with (go_at_call 27; refine (l1In_k _ _ _ _ _ (by first | exact h3 | exact m1 | exact m3)).mono ?_; rintro e w' ⟨rfl, rfl⟩)
                go_roundw
                case rel => exact ⟨k + 1, by omega, by go_num, HN.out, stCt hB (alCt _ _)⟩
                case measure => simp [intOf]; omega
          · have d5 : (b.epoch == 0) = false := by rw [beq_eq_false_iff_ne]; exact h5
            have h5' := h5
            clear hx hy' h5
            cases x
            all_goals
              have HN : Hid (allTo (okBr s.next) s.brks (k + 1)) := allTo_succ HO.out HK.out (by simp only [okBr, h4, h3, decide_eq_true h1', decide_eq_true h2', decide_eq_false h5']; simp)
              go_wp2_with (go_at_call 27; refine (l1In_k _ _ _ _ _ (by first | exact h3 | exact m1 | exact m3)).mono ?_; rintro e w' ⟨rfl, rfl⟩)
              go_roundw
              case rel => exact ⟨k + 1, by omega, by go_num, HN.out, stCt hB (alCt _ _)⟩
              case measure => simp [intOf]; omega
        · have h4 : (b.fenced == decide (b.left = 0)) = false := by rw [hx, hy']; cases x <;> cases y <;> simp_all
          clear hx hy'
          cases x <;> cases y <;> first | (exact absurd rfl hxy) | skip
          all_goals
            clear hxy
            have HE : Hid (goodCt s = false) := goodCt_1 (all_bad HK.out (by simp only [okBr, h4]; simp))
            go_wp2_with (go_at_call 27; refine (l1In_k _ _ _ _ _ (by first | exact h3 | exact m1 | exact m3)).mono ?_; rintro e w' ⟨rfl, rfl⟩)
            go_ret
            exact ⟨ret_bool HE.out.symm, stCt bB (stCt hB (alCt _ _))⟩
    · obtain rfl : k = s.brks.length := by omega
      have Hb : Hid (s.brks.all (okBr s.next) = true) := all_done HO.out
      clear HO
      cases m1 : inB s.brks.length 1 6 with
      | false =>
        have HE : Hid (goodCt s = false) := goodCt_2 (by simp [midCt, m1])
        go_wp2_with (go_at_call 27; refine (l1In_k _ _ _ _ _ (by first | exact h3 | exact m1 | exact m3)).mono ?_; rintro e w' ⟨rfl, rfl⟩)
        go_ret
        exact ⟨ret_bool HE.out.symm, stCt bB hB⟩
      | true =>
        by_cases m2 : s.parts.length ≤ 5
        · have m2' : (s.parts.length : Int) ≤ 5 := by omega
          cases m3 : inB s.next 1 1000 with
          | false =>
            have HE : Hid (goodCt s = false) := goodCt_2 (by simp [midCt, m3])
            go_wp2_with (go_at_call 27; refine (l1In_k _ _ _ _ _ (by first | exact h3 | exact m1 | exact m3)).mono ?_; rintro e w' ⟨rfl, rfl⟩)
            go_ret
            exact ⟨ret_bool HE.out.symm, stCt bB hB⟩
          | true =>
            have Hm : Hid (midCt s = true) := by show _ = _; simp [midCt, m1, m2, m3]
            go_wp2_with (go_at_call 27; refine (l1In_k _ _ _ _ _ (by first | exact h3 | exact m1 | exact m3)).mono ?_; rintro e w' ⟨rfl, rfl⟩)
            go_loopw [69] (fun i wr => ∃ k : Nat, k ≤ s.parts.length ∧ i = .int .i64 k ∧ Hid (allTo (okPn s.brks) s.parts k) ∧ Below u0.heap.size u0 wr) (fun i _ => s.parts.length - (intOf i).toNat)
            case atStart => exact ⟨0, Nat.zero_le _, rfl, allTo_zero _ _, hB⟩
            case round =>
              clear hB p0 p1 p2
              obtain ⟨k, hk, rfl, HO, hB⟩ := hrel
              have p0 := celB hB q0
              have p1 := celB hB q1
              have p2 := celB hB q2
              by_cases hlt : k < s.parts.length
              · obtain ⟨b, hkb⟩ := getPn hlt
                obtain ⟨kb, ob, rfl, r0, k0, r1, k1, e0, e1, e2, e3, e4, z0, n0, z1, n1⟩ := ((hs.parts.below bB).below hB) k b hkb
                have HK : Hid (s.parts[k]? = some b) := hkb
                have hki : (k : Int) < (s.parts.length : Int) := by omega
                clear hkb
                have y0 : ∀ o, (wr.alloc o).cell? ⟨w.heap.size, 0, none⟩ = some (.slice a0 s.brks.length c0) := fun o => celB (alCt wr o) p0
                have y1 : ∀ o, (wr.alloc o).cell? ⟨w.heap.size, 1, none⟩ = some (.slice (some ⟨kb, ob, none⟩) s.parts.length c1) := fun o => celB (alCt wr o) p1
                have y2 : ∀ o, (wr.alloc o).cell? ⟨w.heap.size, 2, none⟩ = some (.int .i64 s.next) := fun o => celB (alCt wr o) p2
                have zb := ((hs.brks.below bB).below hB)
                obtain ⟨g, hg⟩ : ∃ g, okPn s.brks b = g := ⟨_, rfl⟩
                have HG : Hid (okPn s.brks b = g) := hg
                clear hg
                go_wp2_with fail
                refine (l12Part_c s _ _ _ _ b _ _ _ _ _ _ (zb.below (alCt _ _)) hl.brks (z0.below (alCt _ _)) n0 (z1.below (alCt _ _)) n1 HG.out).mono ?_
                rintro r w1 ⟨rfl, hB1⟩
                have BB := stCt (stCt hB (alCt _ _)) hB1
                clear hB1 y0 y1 y2 e0 e1 e2 e3 e4
                cases g
                · have HE : Hid (goodCt s = false) := goodCt_3 (all_bad HK.out HG.out)
                  go_wp2
                  go_ret
                  exact ⟨ret_bool HE.out.symm, stCt bB BB⟩
                · have HN : Hid (allTo (okPn s.brks) s.parts (k + 1)) := allTo_succ HO.out HK.out HG.out
                  go_wp2
                  go_roundw
                  case rel => exact ⟨k + 1, by omega, by go_num, HN.out, BB⟩
                  case measure => simp [intOf]; omega
              · obtain rfl : k = s.parts.length := by omega
                have HE : Hid (goodCt s = true) := goodCt_4 Hb.out Hm.out (all_done HO.out)
                go_wp2
                go_ret
                exact ⟨ret_bool HE.out.symm, stCt bB hB⟩
        · have m2' : ¬ (s.parts.length : Int) ≤ 5 := by omega
          have HE : Hid (goodCt s = false) := goodCt_2 (by simp [midCt, m2])
          go_wp2_with (go_at_call 27; refine (l1In_k _ _ _ _ _ (by first | exact h3 | exact m1 | exact m3)).mono ?_; rintro e w' ⟨rfl, rfl⟩)
          go_ret
          exact ⟨ret_bool HE.out.symm, stCt bB hB⟩

theorem specGoodCt_c (s : Ct) (a0 a1 : Option Addr) (c0 c1 : Nat) (b : Bool) (w : World) (hs : CtR w s a0 a1) (hl : CtL s) (h : goodCt s = b) :
    Calls Tryd.prog 15 #[ctV s a0 c0 a1 c1] w fun e w' => e = .returned (.bool b) ∧ Below w.heap.size w w' := by
  rw [← h]; exact specGoodCt_any s a0 a1 c0 c1 w hs hl

end Go.Proofs.YtfehndedkffpfaaDoor
