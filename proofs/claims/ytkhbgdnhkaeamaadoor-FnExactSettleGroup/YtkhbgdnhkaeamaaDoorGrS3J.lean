/-
  Groups of replicas, the specification's side: GoodGroup. Made by mkgrs.py.
  Groups of replicas, the specification's side: LagIn. Made by mkgrs.py.
-/
import Derived.Test.YtkhbgdnhkaeamaaDoorGrS
import Derived.Test.YtkhbgdnhkaeamaaDoorQSpec
namespace Go.Proofs.YtkhbgdnhkaeamaaDoor
open Go.RowKit

theorem l6Group_c (a : Option Addr) (c : Nat) (zs : List Int) (many : Int) (b : Bool) (w : World) (hs : Ints w a zs) (hl : zs.length ≤ maxLen) (h : riseB zs many = b) :
    Calls Tryd.prog 65 #[.slice a zs.length c, .int .i64 many] w fun e w' => e = .returned (.bool b) ∧ w' = w := by
  rw [← h]; exact l6Group_any a c zs many w hs hl
theorem l1Has_c (a : Option Addr) (c : Nat) (zs : List Int) (n : Int) (b : Bool) (w : World) (hs : Ints w a zs) (hl : zs.length ≤ maxLen) (h : zs.contains n = b) :
    Calls Tryd.prog 66 #[.slice a zs.length c, .int .i64 n] w fun e w' => e = .returned (.bool b) ∧ w' = w := by
  rw [← h]; exact l1Has_any a c zs n w hs hl

set_option maxRecDepth 100000 in
set_option maxHeartbeats 16000000 in
theorem specGoodGr_any (s : Gr) (a0 a1 : Option Addr) (c0 c1 : Nat) (w : World) (hs : GrR w s a0 a1) (hl : GrL s) :
    Calls Tryd.prog 40 #[grV s a0 c0 a1 c1] w fun e w' => e = .returned (.bool (goodGr s)) ∧ Below w.heap.size w w' := by
  have m0 := hl.steps
  have m1 := hl.reps
  unfold maxLen at m0 m1
  obtain ⟨u0, hu0⟩ : ∃ u0, (w.alloc (.cells #[.int .i64 s.epoch, .int .i64 s.leader, .slice a0 s.steps.length c0, .int .i64 s.high, .slice a1 s.reps.length c1] 25)) = u0 := ⟨_, rfl⟩
  have kk : u0.cell? ⟨w.heap.size, 0, none⟩ = some (.int .i64 s.epoch) ∧ u0.cell? ⟨w.heap.size, 1, none⟩ = some (.int .i64 s.leader) ∧ u0.cell? ⟨w.heap.size, 2, none⟩ = some (.slice a0 s.steps.length c0) ∧ u0.cell? ⟨w.heap.size, 3, none⟩ = some (.int .i64 s.high) ∧ u0.cell? ⟨w.heap.size, 4, none⟩ = some (.slice a1 s.reps.length c1) := by rw [← hu0]; simp [go_sem]
  have bB : Below w.heap.size w u0 := by rw [← hu0]; exact alGr _ _
  have hI := (hs.below bB).steps
  obtain ⟨q0, q1, q2, q3, q4⟩ := kk
  cases h1 : inB s.reps.length 2 4 with
  | false =>
    have HE : Hid (goodGr s = false) := goodGr_head (by simp [headGr, h1])
    go_enter Tryd.func40, Tryd.ntmps40
    go_wp2_with (first | (go_at_call 28; refine (l1In_c _ _ _ _ _ (by first | exact h1 | exact h2)).mono ?_; rintro e w' ⟨rfl, hw⟩; rw [hw]; clear hw w') | (go_at_call 65; refine (l6Group_c _ _ _ _ _ _ hI hl.steps h3).mono ?_; rintro e w' ⟨rfl, hw⟩; rw [hw]; clear hw w') | (go_at_call 66; refine (l1Has_c _ _ _ _ _ _ hI hl.steps h4).mono ?_; rintro e w' ⟨rfl, hw⟩; rw [hw]; clear hw w'))
    (try go_wp2)
    go_ret
    exact ⟨ret_bool HE.out.symm, bB⟩
  | true =>
    cases h2 : inB s.epoch 0 100 with
    | false =>
      have HE : Hid (goodGr s = false) := goodGr_head (by simp [headGr, h2])
      go_enter Tryd.func40, Tryd.ntmps40
      go_wp2_with (first | (go_at_call 28; refine (l1In_c _ _ _ _ _ (by first | exact h1 | exact h2)).mono ?_; rintro e w' ⟨rfl, hw⟩; rw [hw]; clear hw w') | (go_at_call 65; refine (l6Group_c _ _ _ _ _ _ hI hl.steps h3).mono ?_; rintro e w' ⟨rfl, hw⟩; rw [hw]; clear hw w') | (go_at_call 66; refine (l1Has_c _ _ _ _ _ _ hI hl.steps h4).mono ?_; rintro e w' ⟨rfl, hw⟩; rw [hw]; clear hw w'))
      (try go_wp2)
      go_ret
      exact ⟨ret_bool HE.out.symm, bB⟩
    | true =>
      cases h3 : riseB s.steps s.reps.length with
      | false =>
        have HE : Hid (goodGr s = false) := goodGr_head (by simp [headGr, h3])
        go_enter Tryd.func40, Tryd.ntmps40
        go_wp2_with (first | (go_at_call 28; refine (l1In_c _ _ _ _ _ (by first | exact h1 | exact h2)).mono ?_; rintro e w' ⟨rfl, hw⟩; rw [hw]; clear hw w') | (go_at_call 65; refine (l6Group_c _ _ _ _ _ _ hI hl.steps h3).mono ?_; rintro e w' ⟨rfl, hw⟩; rw [hw]; clear hw w') | (go_at_call 66; refine (l1Has_c _ _ _ _ _ _ hI hl.steps h4).mono ?_; rintro e w' ⟨rfl, hw⟩; rw [hw]; clear hw w'))
        (try go_wp2)
        go_ret
        exact ⟨ret_bool HE.out.symm, bB⟩
      | true =>
        cases h4 : s.steps.contains s.leader with
        | false =>
          have HE : Hid (goodGr s = false) := goodGr_head (by simp only [headGr, h4, Bool.and_false, Bool.false_and])
          go_enter Tryd.func40, Tryd.ntmps40
          go_wp2_with (first | (go_at_call 28; refine (l1In_c _ _ _ _ _ (by first | exact h1 | exact h2)).mono ?_; rintro e w' ⟨rfl, hw⟩; rw [hw]; clear hw w') | (go_at_call 65; refine (l6Group_c _ _ _ _ _ _ hI hl.steps h3).mono ?_; rintro e w' ⟨rfl, hw⟩; rw [hw]; clear hw w') | (go_at_call 66; refine (l1Has_c _ _ _ _ _ _ hI hl.steps h4).mono ?_; rintro e w' ⟨rfl, hw⟩; rw [hw]; clear hw w'))
          (try go_wp2)
          go_ret
          exact ⟨ret_bool HE.out.symm, bB⟩
        | true =>
          by_cases h5 : s.high < 0
          · have h5' : ¬ 0 ≤ s.high := by omega
            have HE : Hid (goodGr s = false) := goodGr_head (by simp [headGr, h5'])
            go_enter Tryd.func40, Tryd.ntmps40
            go_wp2_with (first | (go_at_call 28; refine (l1In_c _ _ _ _ _ (by first | exact h1 | exact h2)).mono ?_; rintro e w' ⟨rfl, hw⟩; rw [hw]; clear hw w') | (go_at_call 65; refine (l6Group_c _ _ _ _ _ _ hI hl.steps h3).mono ?_; rintro e w' ⟨rfl, hw⟩; rw [hw]; clear hw w') | (go_at_call 66; refine (l1Has_c _ _ _ _ _ _ hI hl.steps h4).mono ?_; rintro e w' ⟨rfl, hw⟩; rw [hw]; clear hw w'))
            (try go_wp2)
            go_ret
            exact ⟨ret_bool HE.out.symm, bB⟩
          have HH : Hid (headGr s = true) := by show _ = _; simp only [headGr, h1, h2, h3, h4, Bool.true_and]; exact decide_eq_true (by omega)
          obtain ⟨g1, g2⟩ := head_lead HH.out
          obtain ⟨f, hf⟩ : ∃ f : Nat, s.leader = f := ⟨s.leader.toNat, by omega⟩
          have hfn : f < s.reps.length := by omega
          have hfi : (f : Int) < (s.reps.length : Int) := by omega
          obtain ⟨kl, ol, ea, r9, k9, d0, -, -, z9, m9⟩ := hs.reps f _ (rpA_get hfn)
          subst ea
          obtain ⟨lg, hlg⟩ : ∃ lg, (rpA s.reps f).log = lg := ⟨_, rfl⟩
          rw [hlg] at d0 z9 m9
          have HL : Hid (leadL s = lg) := by show (rpA s.reps s.leader.toNat).log = lg; rw [hf, Int.toNat_natCast, hlg]
          replace d0 := celB bB d0
          replace z9 := z9.below bB
          have HF : Hid (s.leader = f) := hf
          clear hf hlg
          go_enter Tryd.func40, Tryd.ntmps40
          go_wp2_with (first | (go_at_call 28; refine (l1In_c _ _ _ _ _ (by first | exact h1 | exact h2)).mono ?_; rintro e w' ⟨rfl, hw⟩; rw [hw]; clear hw w') | (go_at_call 65; refine (l6Group_c _ _ _ _ _ _ hI hl.steps h3).mono ?_; rintro e w' ⟨rfl, hw⟩; rw [hw]; clear hw w') | (go_at_call 66; refine (l1Has_c _ _ _ _ _ _ hI hl.steps h4).mono ?_; rintro e w' ⟨rfl, hw⟩; rw [hw]; clear hw w'))
          clear hu0 h1 h2 h3 h4
          rw [HF.out] at q1
          clear HF
          go_loopw [41] (fun i wr => ∃ k : Nat, k ≤ s.reps.length ∧ i = .int .i64 k ∧ Hid (rpTo s k) ∧ Below u0.heap.size u0 wr) (fun i _ => s.reps.length - (intOf i).toNat)
          case atStart => exact ⟨0, Nat.zero_le _, rfl, (fun i hi => absurd hi (Nat.not_lt_zero _)), Below.refl _ _⟩
          case round =>
            obtain ⟨k, hk, rfl, HO, hB⟩ := hrel
            by_cases hlt : k < s.reps.length
            · obtain ⟨b, hkb⟩ := getRp hlt
              obtain ⟨kb, ob, ea, r0, k0, e0, e1, e2, z0, m0'⟩ := ((hs.reps.below bB).below hB) k b hkb
              simp only [Option.some.injEq, Addr.mk.injEq, and_true] at ea
              obtain ⟨rfl, rfl⟩ := ea
              have HK : Hid (s.reps[k]? = some b) := hkb
              have hki : (k : Int) < (s.reps.length : Int) := by omega
              clear hkb
              obtain ⟨v0, hv0⟩ : ∃ v, (wr.alloc (.cells #[.slice r0 b.log.length k0, .int .i64 b.epoch, .int .i64 b.known] 81)) = v := ⟨_, rfl⟩
              have y : v0.cell? ⟨wr.heap.size, 0, none⟩ = some (.slice r0 b.log.length k0) ∧ v0.cell? ⟨wr.heap.size, 1, none⟩ = some (.int .i64 b.epoch) ∧ v0.cell? ⟨wr.heap.size, 2, none⟩ = some (.int .i64 b.known) := by rw [← hv0]; simp [go_sem]
              have bV : Below wr.heap.size wr v0 := by rw [← hv0]; exact alGr _ _
              obtain ⟨y0, y1, y2⟩ := y
              have BV := stGr hB bV
              replace z0 := z0.below bV
              have p0 := celB hB q0
              have p1 := celB hB q1
              have p2 := celB hB q2
              have p3 := celB hB q3
              have p4 := celB hB q4
              have t0 := celB bV p0
              clear p1 p2 p3 hB
              obtain ⟨n, hn⟩ : ∃ n, sameN b.log lg = n := ⟨_, rfl⟩
              have HN : Hid (sameN b.log lg = n) := hn
              cases h1' : rlogB b.log s.epoch with
              | false =>
                have HE : Hid (goodGr s = false) := goodGr_bad HK.out (by simp [okRp, h1'])
                go_wp2_with fail
                refine (l11Log_c _ _ _ _ _ _ z0 m0' h1').mono ?_
                rintro r w1 ⟨rfl, hB1⟩
                have BB := stGr BV hB1
                clear hB1
                go_wp2
                go_ret
                exact ⟨ret_bool HE.out.symm, stGr bB BB⟩
              | true =>
                go_wp2_with fail
                clear hv0
                refine (l11Log_c _ _ _ _ _ _ z0 m0' h1').mono ?_
                rintro r w1 ⟨rfl, hB1⟩
                have BB := stGr BV hB1
                replace y0 := celB hB1 y0
                replace y1 := celB hB1 y1
                replace y2 := celB hB1 y2
                replace z0 := z0.below hB1
                replace hI := hI.below BB
                replace z9 := z9.below BB
                replace d0 := celB BB d0
                have p0' := celB BB q0
                have p1' := celB BB q1
                have p2' := celB BB q2
                have p3' := celB BB q3
                have p4' := celB BB q4
                clear hB1 p0 p4 t0 BV bV q0 q1 q2 q3 q4 e0 e1 e2
                cases h2' : inB b.epoch 0 s.epoch with
                | false =>
                  have HE : Hid (goodGr s = false) := goodGr_bad HK.out (by simp [okRp, h2'])
                  go_wp2_with (go_at_call 28; refine (l1In_c _ _ _ _ _ h2').mono ?_; rintro e w' ⟨rfl, hw⟩; rw [hw]; clear hw w')
                  go_ret
                  exact ⟨ret_bool HE.out.symm, stGr bB BB⟩
                | true =>
                  by_cases h3' : b.known < 0
                  · have hnn : ¬ 0 ≤ b.known := by omega
                    have HE : Hid (goodGr s = false) := goodGr_bad HK.out (by simp [okRp, hnn])
                    go_wp2_with (go_at_call 28; refine (l1In_c _ _ _ _ _ h2').mono ?_; rintro e w' ⟨rfl, hw⟩; rw [hw]; clear hw w')
                    go_ret
                    exact ⟨ret_bool HE.out.symm, stGr bB BB⟩
                  by_cases h4' : (b.log.length : Int) < b.known
                  · have hnn : ¬ b.known ≤ (b.log.length : Int) := by omega
                    have HE : Hid (goodGr s = false) := goodGr_bad HK.out (by simp [okRp, hnn])
                    go_wp2_with (go_at_call 28; refine (l1In_c _ _ _ _ _ h2').mono ?_; rintro e w' ⟨rfl, hw⟩; rw [hw]; clear hw w')
                    go_ret
                    exact ⟨ret_bool HE.out.symm, stGr bB BB⟩
                  go_wp2_with (go_at_call 28; refine (l1In_c _ _ _ _ _ h2').mono ?_; rintro e w' ⟨rfl, hw⟩; rw [hw]; clear hw w')
                  cases h6 : s.steps.contains (k : Int) with
                  | false =>
                    go_quiet ((go_at_call 66; exact Calls.quiet_of_same (l1Has_c _ _ _ _ _ _ (hI.below (below_drewN (Below.refl _ _) _)) hl.steps h6)))
                    have BQ : Below w1.heap.size w1 (w1.drewN nq) := below_drewN (Below.refl _ _) nq
                    generalize w1.drewN nq = w2 at BQ ⊢
                    replace BB := stGr BB BQ
                    replace y0 := celB BQ y0
                    replace y1 := celB BQ y1
                    replace y2 := celB BQ y2
                    replace p0' := celB BQ p0'
                    replace p1' := celB BQ p1'
                    replace p2' := celB BQ p2'
                    replace p3' := celB BQ p3'
                    replace p4' := celB BQ p4'
                    replace z0 := z0.below BQ
                    replace z9 := z9.below BQ
                    replace d0 := celB BQ d0
                    clear BQ
                    by_cases h7 : b.epoch = s.epoch
                    · have hd7 : (b.epoch == s.epoch) = true := by simp [h7]
                      by_cases h8 : (n : Int) < b.known
                      · have HE : Hid (goodGr s = false) := goodGr_bad HK.out (okRp_f HL.out HN.out h7 h8)
                        clear HN HL h7
                        go_wp2_with fail
                        go_quiet ((go_at_call 68; exact Calls.quiet_of (l11Same_c _ _ _ _ _ _ n _ (z0.below (below_drewN (Below.refl _ _) _)) (z9.below (below_drewN (Below.refl _ _) _)) m0' hn)))
                        go_wp2
                        go_ret
                        exact ⟨ret_bool HE.out.symm, stGr bB (below_drewN BB nq)⟩
                      · have HT : Hid (rpTo s (k + 1)) := rpTo_succ HO.out HK.out (okRp_t HL.out HN.out h1' h2' (by omega) (by omega) (.inl h6) (.inr (by omega)))
                        clear HN h7
                        go_wp2_with fail
                        go_quiet ((go_at_call 68; exact Calls.quiet_of (l11Same_c _ _ _ _ _ _ n _ (z0.below (below_drewN (Below.refl _ _) _)) (z9.below (below_drewN (Below.refl _ _) _)) m0' hn)))
                        go_wp2
                        go_roundw
                        case rel => exact ⟨k + 1, by omega, by go_num, HT.out, (below_drewN BB nq)⟩
                        case measure => simp [intOf]; omega
                    · have hd7 : (b.epoch == s.epoch) = false := by simp [h7]
                      have HT : Hid (rpTo s (k + 1)) := rpTo_succ HO.out HK.out (okRp_t HL.out HN.out h1' h2' (by omega) (by omega) (.inl h6) (.inl h7))
                      clear HN h7
                      go_wp2_with fail
                      go_quiet (fail)
                      go_wp2
                      go_roundw
                      case rel => exact ⟨k + 1, by omega, by go_num, HT.out, (below_drewN BB nq)⟩
                      case measure => simp [intOf]; omega
                  | true =>
                    by_cases h6' : (n : Int) < s.high
                    · have hnn : ¬ s.high ≤ (n : Int) := by omega
                      have HE : Hid (goodGr s = false) := goodGr_bad HK.out (by have h9 := HL.out; have h10 := HN.out; unfold okRp; rw [h9, h10, h6]; simp [hnn])
                      clear hnn
                      go_quiet (first | (go_at_call 66; exact Calls.quiet_of_same (l1Has_c _ _ _ _ _ _ (hI.below (below_drewN (Below.refl _ _) _)) hl.steps h6)) | (go_at_call 68; exact Calls.quiet_of (l11Same_c _ _ _ _ _ _ n _ (z0.below (below_drewN (Below.refl _ _) _)) (z9.below (below_drewN (Below.refl _ _) _)) m0' hn)))
                      go_wp2
                      go_ret
                      exact ⟨ret_bool HE.out.symm, stGr bB (below_drewN BB nq)⟩
                    · go_quiet (first | (go_at_call 66; exact Calls.quiet_of_same (l1Has_c _ _ _ _ _ _ (hI.below (below_drewN (Below.refl _ _) _)) hl.steps h6)) | (go_at_call 68; exact Calls.quiet_of (l11Same_c _ _ _ _ _ _ n _ (z0.below (below_drewN (Below.refl _ _) _)) (z9.below (below_drewN (Below.refl _ _) _)) m0' hn)))
                      have BQ : Below w1.heap.size w1 (w1.drewN nq) := below_drewN (Below.refl _ _) nq
                      generalize w1.drewN nq = w2 at BQ ⊢
                      replace BB := stGr BB BQ
                      replace y0 := celB BQ y0
                      replace y1 := celB BQ y1
                      replace y2 := celB BQ y2
                      replace p0' := celB BQ p0'
                      replace p1' := celB BQ p1'
                      replace p2' := celB BQ p2'
                      replace p3' := celB BQ p3'
                      replace p4' := celB BQ p4'
                      replace z0 := z0.below BQ
                      replace z9 := z9.below BQ
                      replace d0 := celB BQ d0
                      clear BQ
                      by_cases h7 : b.epoch = s.epoch
                      · have hd7 : (b.epoch == s.epoch) = true := by simp [h7]
                        by_cases h8 : (n : Int) < b.known
                        · have HE : Hid (goodGr s = false) := goodGr_bad HK.out (okRp_f HL.out HN.out h7 h8)
                          clear HN HL h7
                          go_wp2_with fail
                          go_quiet ((go_at_call 68; exact Calls.quiet_of (l11Same_c _ _ _ _ _ _ n _ (z0.below (below_drewN (Below.refl _ _) _)) (z9.below (below_drewN (Below.refl _ _) _)) m0' hn)))
                          go_wp2
                          go_ret
                          exact ⟨ret_bool HE.out.symm, stGr bB (below_drewN BB nq)⟩
                        · have HT : Hid (rpTo s (k + 1)) := rpTo_succ HO.out HK.out (okRp_t HL.out HN.out h1' h2' (by omega) (by omega) (.inr (by omega)) (.inr (by omega)))
                          clear HN h7
                          go_wp2_with fail
                          go_quiet ((go_at_call 68; exact Calls.quiet_of (l11Same_c _ _ _ _ _ _ n _ (z0.below (below_drewN (Below.refl _ _) _)) (z9.below (below_drewN (Below.refl _ _) _)) m0' hn)))
                          go_wp2
                          go_roundw
                          case rel => exact ⟨k + 1, by omega, by go_num, HT.out, (below_drewN BB nq)⟩
                          case measure => simp [intOf]; omega
                      · have hd7 : (b.epoch == s.epoch) = false := by simp [h7]
                        have HT : Hid (rpTo s (k + 1)) := rpTo_succ HO.out HK.out (okRp_t HL.out HN.out h1' h2' (by omega) (by omega) (.inr (by omega)) (.inl h7))
                        clear HN h7
                        go_wp2_with fail
                        go_quiet (fail)
                        go_wp2
                        go_roundw
                        case rel => exact ⟨k + 1, by omega, by go_num, HT.out, (below_drewN BB nq)⟩
                        case measure => simp [intOf]; omega
            · obtain rfl : k = s.reps.length := by omega
              have HE : Hid (goodGr s = true) := goodGr_done HH.out HO.out
              go_wp2
              go_ret
              exact ⟨ret_bool HE.out.symm, stGr bB hB⟩

theorem specGoodGr_c (s : Gr) (a0 a1 : Option Addr) (c0 c1 : Nat) (b : Bool) (w : World) (hs : GrR w s a0 a1) (hl : GrL s) (h : goodGr s = b) :
    Calls Tryd.prog 40 #[grV s a0 c0 a1 c1] w fun e w' => e = .returned (.bool b) ∧ Below w.heap.size w w' := by
  rw [← h]; exact specGoodGr_any s a0 a1 c0 c1 w hs hl

end Go.Proofs.YtkhbgdnhkaeamaaDoor

namespace Go.Proofs.YtkhbgdnhkaeamaaDoor
open Go.RowKit

theorem lg_bad {g : Gr} {k : Int} (h : lgB g k = false) : lgN g k = 0 ∧ lgB g k = false := by simp [lgN, h]

end Go.Proofs.YtkhbgdnhkaeamaaDoor
