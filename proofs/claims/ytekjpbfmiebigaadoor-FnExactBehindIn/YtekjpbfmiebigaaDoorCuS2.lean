/-
  Clusters, the specification's side: l17Node. Made by mkcun.py.
-/
import Derived.Test.YtekjpbfmiebigaaDoorCuS
import Derived.Deep.CutRange
namespace Go.Proofs.YtekjpbfmiebigaaDoor
open Go.RowKit

theorem okNd_eq {c : Cu} {k : Nat} {x : Nd} {b1 b2 b3 b4 b5 b6 b7 b8 b9 : Bool} (h1 : vwB x.epoch x.leader x.steps c.nodes.length = b1) (h2 : decide (x.epoch ≤ c.tep) = b2) (h3 : (!(x.epoch == c.tep) || (x.leader == c.tld)) = b3) (h4 : rlogB x.log x.epoch = b4) (h5 : decide (x.known.length = c.nodes.length) = b5) (h6 : decide (0 ≤ x.told) = b6) (h7 : decide (x.told ≤ (x.log.length : Int)) = b7) (h8 : x.known.all (knOk (thinks k x) x.log.length) = b8) (h9 : (!c.tst.contains (k : Int) || decide (sameN c.acked x.log = c.acked.length)) = b9) :
    okNd c k x = (b1 && (b2 && (b3 && (b4 && (b5 && (b6 && (b7 && (b8 && b9)))))))) := by
  unfold okNd; rw [h1, h2, h3, h4, h5, h6, h7, h8, h9]

set_option maxRecDepth 100000 in
set_option maxHeartbeats 16000000 in
theorem l17Node_any (s : Cu) (a0 a1 a2 : Option Addr) (c0 c1 c2 : Nat) (k : Nat) (x : Nd) (w : World) (hs : CuR w s a0 a1 a2) (hl : CuL s) (hk : s.nodes[k]? = some x) :
    Calls Tryd.prog 54 #[cuV s a0 c0 a1 c1 a2 c2, .int .i64 (k : Int)] w fun r w' => r = .returned (.bool (okNd s k x)) ∧ Below w.heap.size w w' := by
  have hkn := (List.getElem?_eq_some_iff.1 hk).1
  have hki : (k : Int) < (s.nodes.length : Int) := by omega
  have mm := hl.nodes
  unfold maxLen at mm
  have HK : Hid (s.nodes[k]? = some x) := hk
  obtain ⟨u0, hu0⟩ : ∃ u0, (w.alloc (.cells #[.int .i64 s.tep, .int .i64 s.tld, .slice a0 s.tst.length c0, .slice a1 s.nodes.length c1, .slice a2 s.acked.length c2] 28)) = u0 := ⟨_, rfl⟩
  have q0 : u0.cell? ⟨w.heap.size, 0, none⟩ = some (.int .i64 s.tep) := by rw [← hu0]; simp [go_sem]
  have q1 : u0.cell? ⟨w.heap.size, 1, none⟩ = some (.int .i64 s.tld) := by rw [← hu0]; simp [go_sem]
  have q2 : u0.cell? ⟨w.heap.size, 2, none⟩ = some (.slice a0 s.tst.length c0) := by rw [← hu0]; simp [go_sem]
  have q3 : u0.cell? ⟨w.heap.size, 3, none⟩ = some (.slice a1 s.nodes.length c1) := by rw [← hu0]; simp [go_sem]
  have q4 : u0.cell? ⟨w.heap.size, 4, none⟩ = some (.slice a2 s.acked.length c2) := by rw [← hu0]; simp [go_sem]
  have bB : Below w.heap.size w u0 := by rw [← hu0]; exact alCu _ _
  have hs0 := hs.below bB
  obtain ⟨kb, ob, rfl, r2, k2, r3, k3, r4, k4, e0, e1, e2, e3, e4, e5, z2, m2, z3, m3, z4, m4⟩ := hs0.nodes k x hk
  obtain ⟨v0, hv0⟩ : ∃ v, (u0.alloc (.cells #[.int .i64 x.epoch, .int .i64 x.leader, .slice r2 x.steps.length k2, .slice r3 x.log.length k3, .slice r4 x.known.length k4, .int .i64 x.told] 49)) = v := ⟨_, rfl⟩
  have y0 : v0.cell? ⟨u0.heap.size, 0, none⟩ = some (.int .i64 x.epoch) := by rw [← hv0]; simp [go_sem]
  have y1 : v0.cell? ⟨u0.heap.size, 1, none⟩ = some (.int .i64 x.leader) := by rw [← hv0]; simp [go_sem]
  have y2 : v0.cell? ⟨u0.heap.size, 2, none⟩ = some (.slice r2 x.steps.length k2) := by rw [← hv0]; simp [go_sem]
  have y3 : v0.cell? ⟨u0.heap.size, 3, none⟩ = some (.slice r3 x.log.length k3) := by rw [← hv0]; simp [go_sem]
  have y4 : v0.cell? ⟨u0.heap.size, 4, none⟩ = some (.slice r4 x.known.length k4) := by rw [← hv0]; simp [go_sem]
  have y5 : v0.cell? ⟨u0.heap.size, 5, none⟩ = some (.int .i64 x.told) := by rw [← hv0]; simp [go_sem]
  have bV : Below u0.heap.size u0 v0 := by rw [← hv0]; exact alCu _ _
  have p0 := celB bV q0
  have p1 := celB bV q1
  have p2 := celB bV q2
  have p3 := celB bV q3
  have p4 := celB bV q4
  have z2v := z2.below bV
  replace z3 := z3.below bV
  replace z4 := z4.below bV
  have hI := hs0.tst.below bV
  have hA := hs0.acked.below bV
  have BV := stCu bB bV
  have m4' := m4
  unfold maxLen at m4'
  have m3' := m3
  unfold maxLen at m3'
  clear hs0 hk bV
  cases hv : vwB x.epoch x.leader x.steps s.nodes.length with
  | false =>
    have HE : Hid (okNd s k x = false) := by show _ = _; rw [okNd_eq hv rfl rfl rfl rfl rfl rfl rfl rfl]; rfl
    go_enter Tryd.func54, Tryd.ntmps54
    go_upto_region 2 with fail
    simp only [List.append_eq, List.cons_append, List.nil_append]
    go_wp2_with fail
    refine (l17View_c x.epoch x.leader _ r2 k2 x.steps _ _ z2v m2 hv).mono ?_
    rintro r w1 ⟨rfl, hB1⟩
    have BB := stCu BV hB1
    clear hB1
    go_wp2
    go_ret
    exact ⟨ret_bool HE.out.symm, BB⟩
  | true =>
    go_enter Tryd.func54, Tryd.ntmps54
    go_upto_region 2 with fail
    simp only [List.append_eq, List.cons_append, List.nil_append]
    go_wp2_with fail
    refine (l17View_c x.epoch x.leader _ r2 k2 x.steps _ _ z2v m2 hv).mono ?_
    rintro r w1 ⟨rfl, hB1⟩
    have BB := stCu BV hB1
    replace y0 := celB hB1 y0
    replace y1 := celB hB1 y1
    replace y2 := celB hB1 y2
    replace y3 := celB hB1 y3
    replace y4 := celB hB1 y4
    replace y5 := celB hB1 y5
    replace p0 := celB hB1 p0
    replace p1 := celB hB1 p1
    replace p2 := celB hB1 p2
    replace p3 := celB hB1 p3
    replace p4 := celB hB1 p4
    replace z3 := z3.below hB1
    replace z4 := z4.below hB1
    replace hI := hI.below hB1
    replace hA := hA.below hB1
    clear hB1
    clear hu0 hv0 q0 q1 q2 q3 q4 e0 e1 e2 e3 e4 e5 z2 z2v
    by_cases c2 : s.tep < x.epoch
    · have h2 : decide (x.epoch ≤ s.tep) = false := decide_eq_false (by omega)
      have HE : Hid (okNd s k x = false) := by show _ = _; rw [okNd_eq hv h2 rfl rfl rfl rfl rfl rfl rfl]; rfl
      clear h2
      go_wp2
      go_ret
      exact ⟨ret_bool HE.out.symm, BB⟩
    have h2 : decide (x.epoch ≤ s.tep) = true := decide_eq_true (by omega)
    by_cases c3 : x.epoch = s.tep
    · have d3 : (x.epoch == s.tep) = true := by simp [c3]
      clear c3
      by_cases c4 : x.leader = s.tld
      · have d4 : (x.leader != s.tld) = false := by simp [c4]
        have h3 : (!(x.epoch == s.tep) || (x.leader == s.tld)) = true := by rw [d3, c4]; simp
        clear c4
        cases h4 : rlogB x.log x.epoch with
        | false =>
          have HE : Hid (okNd s k x = false) := by show _ = _; rw [okNd_eq hv h2 h3 h4 rfl rfl rfl rfl rfl]; rfl
          go_wp2_with fail
          refine (l11Log_c _ _ _ _ _ _ z3 m3 h4).mono ?_
          rintro r w2 ⟨rfl, hB2⟩
          have BB2 := stCu BB hB2
          clear hB2
          go_wp2
          go_ret
          exact ⟨ret_bool HE.out.symm, BB2⟩
        | true =>
          go_wp2_with fail
          refine (l11Log_c _ _ _ _ _ _ z3 m3 h4).mono ?_
          rintro r w2 ⟨rfl, hB2⟩
          have BB2 := stCu BB hB2
          replace y0 := celB hB2 y0
          replace y1 := celB hB2 y1
          replace y2 := celB hB2 y2
          replace y3 := celB hB2 y3
          replace y4 := celB hB2 y4
          replace y5 := celB hB2 y5
          replace p0 := celB hB2 p0
          replace p1 := celB hB2 p1
          replace p2 := celB hB2 p2
          replace p3 := celB hB2 p3
          replace p4 := celB hB2 p4
          replace z3 := z3.below hB2
          replace z4 := z4.below hB2
          replace hI := hI.below hB2
          replace hA := hA.below hB2
          clear hB2
          by_cases c5 : x.known.length = s.nodes.length
          rotate_left
          · have d5 : ((x.known.length : Int) != (s.nodes.length : Int)) = true := by simp; omega
            have h5 : decide (x.known.length = s.nodes.length) = false := decide_eq_false c5
            have HE : Hid (okNd s k x = false) := by show _ = _; rw [okNd_eq hv h2 h3 h4 h5 rfl rfl rfl rfl]; rfl
            clear c5 h5
            go_wp2
            go_ret
            exact ⟨ret_bool HE.out.symm, BB2⟩
          have d5 : ((x.known.length : Int) != (s.nodes.length : Int)) = false := by simp; omega
          have h5 : Hid (decide (x.known.length = s.nodes.length) = true) := decide_eq_true c5
          clear c5
          by_cases c6 : x.told < 0
          · have h6 : decide (0 ≤ x.told) = false := decide_eq_false (by omega)
            have HE : Hid (okNd s k x = false) := by show _ = _; rw [okNd_eq hv h2 h3 h4 h5.out h6 rfl rfl rfl]; rfl
            clear h6
            go_wp2
            go_ret
            exact ⟨ret_bool HE.out.symm, BB2⟩
          have h6 : Hid (decide (0 ≤ x.told) = true) := decide_eq_true (by omega)
          by_cases c7 : (x.log.length : Int) < x.told
          · have h7 : decide (x.told ≤ (x.log.length : Int)) = false := decide_eq_false (by omega)
            have HE : Hid (okNd s k x = false) := by show _ = _; rw [okNd_eq hv h2 h3 h4 h5.out h6.out h7 rfl rfl]; rfl
            clear h7
            go_wp2
            go_ret
            exact ⟨ret_bool HE.out.symm, BB2⟩
          have h7 : Hid (decide (x.told ≤ (x.log.length : Int)) = true) := decide_eq_true (by omega)
          have hsr := hs.below BB2
          go_wp2
          clear c6 c7 d5
          go_loopw [81] (fun i wr => ∃ j : Nat, j ≤ x.known.length ∧ i = .int .i64 j ∧ Hid (allTo (knOk (thinks k x) x.log.length) x.known j) ∧ Below w2.heap.size w2 wr) (fun i _ => x.known.length - (intOf i).toNat)
          case atStart => exact ⟨0, Nat.zero_le _, rfl, allTo_zero _ _, Below.refl _ _⟩
          case round =>
            obtain ⟨j, hj, rfl, HO, hB⟩ := hrel
            replace y0 := celB hB y0
            replace y1 := celB hB y1
            replace y2 := celB hB y2
            replace y3 := celB hB y3
            replace y4 := celB hB y4
            replace y5 := celB hB y5
            replace p0 := celB hB p0
            replace p1 := celB hB p1
            replace p2 := celB hB p2
            replace p3 := celB hB p3
            replace p4 := celB hB p4
            replace z3 := z3.below hB
            replace z4 := z4.below hB
            replace hI := hI.below hB
            replace hA := hA.below hB
            replace hsr := hsr.below hB
            have BR := stCu BB2 hB
            by_cases hlt : j < x.known.length
            · obtain ⟨y, hy⟩ : ∃ y, x.known[j]? = some y := ⟨_, List.getElem?_eq_getElem hlt⟩
              obtain ⟨kc, oc, rfl, ey⟩ := z4 j y hy
              have HY : Hid (x.known[j]? = some y) := hy
              clear hy
              by_cases d1 : y < 0
              · have e1 : ¬ 0 ≤ y := by omega
                have h8 : x.known.all (knOk (thinks k x) x.log.length) = false := all_bad HY.out (by simp [knOk, e1])
                have HE : Hid (okNd s k x = false) := by show _ = _; rw [okNd_eq hv h2 h3 h4 h5.out h6.out h7.out h8 rfl]; rfl
                clear h8
                clear e1
                go_wp2
                go_ret
                exact ⟨ret_bool HE.out.symm, BR⟩
              by_cases d2 : (x.log.length : Int) < y
              · have e2 : ¬ y ≤ (x.log.length : Int) := by omega
                have h8 : x.known.all (knOk (thinks k x) x.log.length) = false := all_bad HY.out (by simp [knOk, e2])
                have HE : Hid (okNd s k x = false) := by show _ = _; rw [okNd_eq hv h2 h3 h4 h5.out h6.out h7.out h8 rfl]; rfl
                clear h8
                clear e2
                go_wp2
                go_ret
                exact ⟨ret_bool HE.out.symm, BR⟩
              have e1 : 0 ≤ y := by omega
              have e2 : y ≤ (x.log.length : Int) := by omega
              cases ht : thinks k x with
              | true =>
                have HT : Hid (allTo (knOk (thinks k x) x.log.length) x.known (j + 1)) := allTo_succ HO.out HY.out (by simp [knOk, ht, e1, e2])
                clear e1 e2
                go_wp2_with fail
                refine (l17Thinks_c s _ _ _ _ _ _ k x _ _ hsr hl HK.out ht).mono ?_
                rintro r w3 ⟨rfl, hB3⟩
                have B3 := stCu hB hB3
                clear hB3
                go_wp2
                go_roundw
                case rel => exact ⟨j + 1, by omega, by go_num, by first | exact HT | (rw [ht] at HT; exact HT), B3⟩
                case measure => simp [intOf]; omega
              | false =>
                by_cases d3 : y = 0
                · have e3 : (y != 0) = false := by simp [d3]
                  have HT : Hid (allTo (knOk (thinks k x) x.log.length) x.known (j + 1)) := allTo_succ HO.out HY.out (by simp [knOk, ht, d3])
                  clear e1 e2 d3
                  go_wp2_with fail
                  refine (l17Thinks_c s _ _ _ _ _ _ k x _ _ hsr hl HK.out ht).mono ?_
                  rintro r w3 ⟨rfl, hB3⟩
                  have B3 := stCu hB hB3
                  clear hB3
                  go_wp2
                  go_roundw
                  case rel => exact ⟨j + 1, by omega, by go_num, by first | exact HT | (rw [ht] at HT; exact HT), B3⟩
                  case measure => simp [intOf]; omega
                · have e3 : (y != 0) = true := by simp [d3]
                  have h8 : x.known.all (knOk (thinks k x) x.log.length) = false := all_bad HY.out (by simp [knOk, ht, d3])
                  have HE : Hid (okNd s k x = false) := by show _ = _; rw [okNd_eq hv h2 h3 h4 h5.out h6.out h7.out h8 rfl]; rfl
                  clear h8
                  clear e1 e2 d3
                  go_wp2_with fail
                  refine (l17Thinks_c s _ _ _ _ _ _ k x _ _ hsr hl HK.out ht).mono ?_
                  rintro r w3 ⟨rfl, hB3⟩
                  have B3 := stCu BR hB3
                  clear hB3
                  go_wp2
                  go_ret
                  exact ⟨ret_bool HE.out.symm, B3⟩
            · obtain rfl : j = x.known.length := by omega
              have h8 : Hid (x.known.all (knOk (thinks k x) x.log.length) = true) := all_done HO.out
              cases hin : s.tst.contains (k : Int) with
              | false =>
                have HE : Hid (okNd s k x = true) := by show _ = _; rw [okNd_eq hv h2 h3 h4 h5.out h6.out h7.out h8.out rfl]; rw [hin]; rfl
                go_wp2
                go_quiet ((go_at_call 66; exact Calls.quiet_of_same (l1Has_c _ _ _ _ _ _ (hI.below (below_drewN (Below.refl _ _) _)) hl.tst hin)))
                go_wp2
                go_ret
                exact ⟨ret_bool HE.out.symm, below_drewN BR nq⟩
              | true =>
                obtain ⟨n, hn⟩ : ∃ n, sameN s.acked x.log = n := ⟨_, rfl⟩
                obtain ⟨b, hb⟩ : ∃ b, ((n : Int) == (s.acked.length : Int)) = b := ⟨_, rfl⟩
                have HE : Hid (okNd s k x = b) := by show _ = _; rw [okNd_eq hv h2 h3 h4 h5.out h6.out h7.out h8.out rfl]; rw [hin, hn, ← hb]; show decide (n = s.acked.length) = _; rw [Bool.eq_iff_iff]; simp only [decide_eq_true_eq, beq_iff_eq]; omega
                go_wp2
                go_quiet (first | (go_at_call 66; exact Calls.quiet_of_same (l1Has_c _ _ _ _ _ _ (hI.below (below_drewN (Below.refl _ _) _)) hl.tst hin)) | (go_at_call 68; exact Calls.quiet_of (l11Same_c _ _ _ _ _ _ n _ (hA.below (below_drewN (Below.refl _ _) _)) (z3.below (below_drewN (Below.refl _ _) _)) hl.acked hn)))
                go_wp2
                go_ret
                exact ⟨ret_bool (by rw [HE.out]), below_drewN BR nq⟩
      · have d4 : (x.leader != s.tld) = true := by simp [c4]
        have h3 : (!(x.epoch == s.tep) || (x.leader == s.tld)) = false := by rw [d3]; simp [c4]
        clear c4
        have HE : Hid (okNd s k x = false) := by show _ = _; rw [okNd_eq hv h2 h3 rfl rfl rfl rfl rfl rfl]; rfl
        clear h3
        go_wp2
        go_ret
        exact ⟨ret_bool HE.out.symm, BB⟩
    · have d3 : (x.epoch == s.tep) = false := by simp [c3]
      clear c3
      have h3 : (!(x.epoch == s.tep) || (x.leader == s.tld)) = true := by rw [d3]; rfl
      cases h4 : rlogB x.log x.epoch with
      | false =>
        have HE : Hid (okNd s k x = false) := by show _ = _; rw [okNd_eq hv h2 h3 h4 rfl rfl rfl rfl rfl]; rfl
        go_wp2_with fail
        refine (l11Log_c _ _ _ _ _ _ z3 m3 h4).mono ?_
        rintro r w2 ⟨rfl, hB2⟩
        have BB2 := stCu BB hB2
        clear hB2
        go_wp2
        go_ret
        exact ⟨ret_bool HE.out.symm, BB2⟩
      | true =>
        go_wp2_with fail
        refine (l11Log_c _ _ _ _ _ _ z3 m3 h4).mono ?_
        rintro r w2 ⟨rfl, hB2⟩
        have BB2 := stCu BB hB2
        replace y0 := celB hB2 y0
        replace y1 := celB hB2 y1
        replace y2 := celB hB2 y2
        replace y3 := celB hB2 y3
        replace y4 := celB hB2 y4
        replace y5 := celB hB2 y5
        replace p0 := celB hB2 p0
        replace p1 := celB hB2 p1
        replace p2 := celB hB2 p2
        replace p3 := celB hB2 p3
        replace p4 := celB hB2 p4
        replace z3 := z3.below hB2
        replace z4 := z4.below hB2
        replace hI := hI.below hB2
        replace hA := hA.below hB2
        clear hB2
        by_cases c5 : x.known.length = s.nodes.length
        rotate_left
        · have d5 : ((x.known.length : Int) != (s.nodes.length : Int)) = true := by simp; omega
          have h5 : decide (x.known.length = s.nodes.length) = false := decide_eq_false c5
          have HE : Hid (okNd s k x = false) := by show _ = _; rw [okNd_eq hv h2 h3 h4 h5 rfl rfl rfl rfl]; rfl
          clear c5 h5
          go_wp2
          go_ret
          exact ⟨ret_bool HE.out.symm, BB2⟩
        have d5 : ((x.known.length : Int) != (s.nodes.length : Int)) = false := by simp; omega
        have h5 : Hid (decide (x.known.length = s.nodes.length) = true) := decide_eq_true c5
        clear c5
        by_cases c6 : x.told < 0
        · have h6 : decide (0 ≤ x.told) = false := decide_eq_false (by omega)
          have HE : Hid (okNd s k x = false) := by show _ = _; rw [okNd_eq hv h2 h3 h4 h5.out h6 rfl rfl rfl]; rfl
          clear h6
          go_wp2
          go_ret
          exact ⟨ret_bool HE.out.symm, BB2⟩
        have h6 : Hid (decide (0 ≤ x.told) = true) := decide_eq_true (by omega)
        by_cases c7 : (x.log.length : Int) < x.told
        · have h7 : decide (x.told ≤ (x.log.length : Int)) = false := decide_eq_false (by omega)
          have HE : Hid (okNd s k x = false) := by show _ = _; rw [okNd_eq hv h2 h3 h4 h5.out h6.out h7 rfl rfl]; rfl
          clear h7
          go_wp2
          go_ret
          exact ⟨ret_bool HE.out.symm, BB2⟩
        have h7 : Hid (decide (x.told ≤ (x.log.length : Int)) = true) := decide_eq_true (by omega)
        have hsr := hs.below BB2
        go_wp2
        clear c6 c7 d5
        go_loopw [81] (fun i wr => ∃ j : Nat, j ≤ x.known.length ∧ i = .int .i64 j ∧ Hid (allTo (knOk (thinks k x) x.log.length) x.known j) ∧ Below w2.heap.size w2 wr) (fun i _ => x.known.length - (intOf i).toNat)
        case atStart => exact ⟨0, Nat.zero_le _, rfl, allTo_zero _ _, Below.refl _ _⟩
        case round =>
          obtain ⟨j, hj, rfl, HO, hB⟩ := hrel
          replace y0 := celB hB y0
          replace y1 := celB hB y1
          replace y2 := celB hB y2
          replace y3 := celB hB y3
          replace y4 := celB hB y4
          replace y5 := celB hB y5
          replace p0 := celB hB p0
          replace p1 := celB hB p1
          replace p2 := celB hB p2
          replace p3 := celB hB p3
          replace p4 := celB hB p4
          replace z3 := z3.below hB
          replace z4 := z4.below hB
          replace hI := hI.below hB
          replace hA := hA.below hB
          replace hsr := hsr.below hB
          have BR := stCu BB2 hB
          by_cases hlt : j < x.known.length
          · obtain ⟨y, hy⟩ : ∃ y, x.known[j]? = some y := ⟨_, List.getElem?_eq_getElem hlt⟩
            obtain ⟨kc, oc, rfl, ey⟩ := z4 j y hy
            have HY : Hid (x.known[j]? = some y) := hy
            clear hy
            by_cases d1 : y < 0
            · have e1 : ¬ 0 ≤ y := by omega
              have h8 : x.known.all (knOk (thinks k x) x.log.length) = false := all_bad HY.out (by simp [knOk, e1])
              have HE : Hid (okNd s k x = false) := by show _ = _; rw [okNd_eq hv h2 h3 h4 h5.out h6.out h7.out h8 rfl]; rfl
              clear h8
              clear e1
              go_wp2
              go_ret
              exact ⟨ret_bool HE.out.symm, BR⟩
            by_cases d2 : (x.log.length : Int) < y
            · have e2 : ¬ y ≤ (x.log.length : Int) := by omega
              have h8 : x.known.all (knOk (thinks k x) x.log.length) = false := all_bad HY.out (by simp [knOk, e2])
              have HE : Hid (okNd s k x = false) := by show _ = _; rw [okNd_eq hv h2 h3 h4 h5.out h6.out h7.out h8 rfl]; rfl
              clear h8
              clear e2
              go_wp2
              go_ret
              exact ⟨ret_bool HE.out.symm, BR⟩
            have e1 : 0 ≤ y := by omega
            have e2 : y ≤ (x.log.length : Int) := by omega
            cases ht : thinks k x with
            | true =>
              have HT : Hid (allTo (knOk (thinks k x) x.log.length) x.known (j + 1)) := allTo_succ HO.out HY.out (by simp [knOk, ht, e1, e2])
              clear e1 e2
              go_wp2_with fail
              refine (l17Thinks_c s _ _ _ _ _ _ k x _ _ hsr hl HK.out ht).mono ?_
              rintro r w3 ⟨rfl, hB3⟩
              have B3 := stCu hB hB3
              clear hB3
              go_wp2
              go_roundw
              case rel => exact ⟨j + 1, by omega, by go_num, by first | exact HT | (rw [ht] at HT; exact HT), B3⟩
              case measure => simp [intOf]; omega
            | false =>
              by_cases d3 : y = 0
              · have e3 : (y != 0) = false := by simp [d3]
                have HT : Hid (allTo (knOk (thinks k x) x.log.length) x.known (j + 1)) := allTo_succ HO.out HY.out (by simp [knOk, ht, d3])
                clear e1 e2 d3
                go_wp2_with fail
                refine (l17Thinks_c s _ _ _ _ _ _ k x _ _ hsr hl HK.out ht).mono ?_
                rintro r w3 ⟨rfl, hB3⟩
                have B3 := stCu hB hB3
                clear hB3
                go_wp2
                go_roundw
                case rel => exact ⟨j + 1, by omega, by go_num, by first | exact HT | (rw [ht] at HT; exact HT), B3⟩
                case measure => simp [intOf]; omega
              · have e3 : (y != 0) = true := by simp [d3]
                have h8 : x.known.all (knOk (thinks k x) x.log.length) = false := all_bad HY.out (by simp [knOk, ht, d3])
                have HE : Hid (okNd s k x = false) := by show _ = _; rw [okNd_eq hv h2 h3 h4 h5.out h6.out h7.out h8 rfl]; rfl
                clear h8
                clear e1 e2 d3
                go_wp2_with fail
                refine (l17Thinks_c s _ _ _ _ _ _ k x _ _ hsr hl HK.out ht).mono ?_
                rintro r w3 ⟨rfl, hB3⟩
                have B3 := stCu BR hB3
                clear hB3
                go_wp2
                go_ret
                exact ⟨ret_bool HE.out.symm, B3⟩
          · obtain rfl : j = x.known.length := by omega
            have h8 : Hid (x.known.all (knOk (thinks k x) x.log.length) = true) := all_done HO.out
            cases hin : s.tst.contains (k : Int) with
            | false =>
              have HE : Hid (okNd s k x = true) := by show _ = _; rw [okNd_eq hv h2 h3 h4 h5.out h6.out h7.out h8.out rfl]; rw [hin]; rfl
              go_wp2
              go_quiet ((go_at_call 66; exact Calls.quiet_of_same (l1Has_c _ _ _ _ _ _ (hI.below (below_drewN (Below.refl _ _) _)) hl.tst hin)))
              go_wp2
              go_ret
              exact ⟨ret_bool HE.out.symm, below_drewN BR nq⟩
            | true =>
              obtain ⟨n, hn⟩ : ∃ n, sameN s.acked x.log = n := ⟨_, rfl⟩
              obtain ⟨b, hb⟩ : ∃ b, ((n : Int) == (s.acked.length : Int)) = b := ⟨_, rfl⟩
              have HE : Hid (okNd s k x = b) := by show _ = _; rw [okNd_eq hv h2 h3 h4 h5.out h6.out h7.out h8.out rfl]; rw [hin, hn, ← hb]; show decide (n = s.acked.length) = _; rw [Bool.eq_iff_iff]; simp only [decide_eq_true_eq, beq_iff_eq]; omega
              go_wp2
              go_quiet (first | (go_at_call 66; exact Calls.quiet_of_same (l1Has_c _ _ _ _ _ _ (hI.below (below_drewN (Below.refl _ _) _)) hl.tst hin)) | (go_at_call 68; exact Calls.quiet_of (l11Same_c _ _ _ _ _ _ n _ (hA.below (below_drewN (Below.refl _ _) _)) (z3.below (below_drewN (Below.refl _ _) _)) hl.acked hn)))
              go_wp2
              go_ret
              exact ⟨ret_bool (by rw [HE.out]), below_drewN BR nq⟩

theorem l17Node_c (s : Cu) (a0 a1 a2 : Option Addr) (c0 c1 c2 : Nat) (k : Nat) (x : Nd) (b : Bool) (w : World) (hs : CuR w s a0 a1 a2) (hl : CuL s) (hk : s.nodes[k]? = some x) (h : okNd s k x = b) :
    Calls Tryd.prog 54 #[cuV s a0 c0 a1 c1 a2 c2, .int .i64 (k : Int)] w fun r w' => r = .returned (.bool b) ∧ Below w.heap.size w w' := by
  rw [← h]; exact l17Node_any s a0 a1 a2 c0 c1 c2 k x w hs hl hk

end Go.Proofs.YtekjpbfmiebigaaDoor
