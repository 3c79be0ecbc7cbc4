/-
  Worlds of chapter 8, the specification's side: spec.GoodSnap answers goodSn. Made by mkspgood.py.
-/
import Derived.Test.YtaoecafibmfphaaSnS2
import Derived.Test.YtaoecafibmfphaaSnI5
namespace Go.Proofs.Ytaoecafibmfphaa
open Go.RowKit

theorem goodSn_last {s : Sn} (h : SnG s) (hf : fitS s.pcs s.chs = true) (hsent : inB s.sent 0 1000 = true) : goodSn s = ((sumI s.am + onW s.chs == s.total) && inB s.total 0 1000) := by
  have h1 := sumTo_rg s.am.length h.am (by omega)
  have h2 := h.on
  have g1 : inB s.am.length 2 4 = true := inB_t.2 (by have := h.n2; have := h.n4; omega)
  unfold goodSn
  rw [g1, allW_t.2 h.am, h.chs, h.pcs, hf, hsent]
  by_cases e : s.total = sumI s.am + onW s.chs
  · have e' : (sumI s.am + onW s.chs == s.total) = true := by simp [e]
    rw [e', decide_eq_true e]
    by_cases e2 : s.total ≤ 1000
    · rw [decide_eq_true e2, inB_t.2 (by unfold sumI at e; omega)]; rfl
    · rw [decide_eq_false e2, inB_f.2 (by omega)]; rfl
  · have e' : (sumI s.am + onW s.chs == s.total) = false := by simp only [beq_eq_false_iff_ne]; exact fun h => e h.symm
    rw [e', decide_eq_false e]; simp

set_option maxRecDepth 100000 in
set_option maxHeartbeats 16000000 in
theorem specGoodSn_any (s : Sn) (a0 a1 a2 : Option Addr) (c0 c1 c2 : Nat) (w : World) (hs : SnR w s a0 a1 a2) (hl : SnB s) :
    Calls Try.prog 16 #[snV s a0 c0 a1 c1 a2 c2] w fun e w' => e = .returned (.bool (goodSn s)) ∧ Below w.heap.size w w' := by
  have hla := hl.am
  have hlc := hl.chs
  have hlp := hl.pcs
  obtain ⟨u0, hu0⟩ : ∃ u0, (w.alloc (.cells #[.slice a0 s.am.length c0, .slice a1 s.chs.length c1, .slice a2 s.pcs.length c2, .int .i64 s.sent, .int .i64 s.total] 26)) = u0 := ⟨_, rfl⟩
  have kk : u0.cell? ⟨w.heap.size, 0, none⟩ = some (.slice a0 s.am.length c0) ∧ u0.cell? ⟨w.heap.size, 1, none⟩ = some (.slice a1 s.chs.length c1) ∧ u0.cell? ⟨w.heap.size, 2, none⟩ = some (.slice a2 s.pcs.length c2) ∧ u0.cell? ⟨w.heap.size, 3, none⟩ = some (.int .i64 s.sent) ∧ u0.cell? ⟨w.heap.size, 4, none⟩ = some (.int .i64 s.total) := by rw [← hu0]; simp [go_sem]
  have bB : Below w.heap.size w u0 := by rw [← hu0]; exact alB _ _
  have hs0 := hs.below bB
  have qq := kk
  obtain ⟨q0, q1, q2, q3, q4⟩ := qq
  go_enter Try.func16, Try.ntmps16
  go_wp2_with fail
  clear hu0 hs q0 q1 q2 q3 q4
  refine (l8Chans_any _ _ hla).mono ?_
  rintro r w1 ⟨v, rfl, hst⟩
  obtain ⟨av, cv, rfl⟩ := ownsC_form hst.own
  have hwant := chs_of_owns hst.own (fun q hq => by obtain ⟨_, _, -, -, -, -, h⟩ := chansL_mem hq; exact h)
  have hs1 := hs0.below hst.bel
  have kk1 := five8 hst.bel kk
  have BW1 := stB bB hst.bel
  have hwl := chansTo_len2 hla (Nat.le_refl s.am.length)
  replace hwl : (chansL s.am.length).length ≤ 1099511627776 := hwl
  clear hst kk bB hs0
  obtain ⟨q0, q1, q2, q3, q4⟩ := kk1
  obtain ⟨want, hwt⟩ : ∃ want, chansL s.am.length = want := ⟨_, rfl⟩
  have HWT : Hid (chansL s.am.length = want) := hwt
  rw [hwt] at hwant hwl ⊢
  clear hwt
  go_wp2_with fail
  cases G1 : inB (s.am.length : Int) 2 4 with
  | false =>
    have HE : Hid (goodSn s = false) := by show _ = _; unfold goodSn; rw [G1]; simp
    refine (l1In_b _ _ _ _ _ G1).mono ?_
    rintro r w2 ⟨rfl, rfl⟩
    go_wp2
    go_ret
    exact ⟨ret_bool HE.out.symm, BW1⟩
  | true =>
  have hn24 := inB_t.1 G1
  refine (l1In_b _ _ _ _ _ G1).mono ?_
  rintro r w2 ⟨rfl, hw2⟩
  rw [hw2]
  clear hw2 w2
  by_cases e1 : s.pcs.length ≠ s.am.length
  · have d1 : (((s.pcs.length : Nat) : Int) != ((s.am.length : Nat) : Int)) = true := by simp; omega
    have HE : Hid (goodSn s = false) := by show _ = _; unfold goodSn; rw [goodPcs_len e1]; simp
    clear e1
    go_wp2
    go_ret
    exact ⟨ret_bool HE.out.symm, BW1⟩
  replace e1 : s.pcs.length = s.am.length := Decidable.of_not_not e1
  have d1 : (((s.pcs.length : Nat) : Int) != ((s.am.length : Nat) : Int)) = false := by simp [e1]
  have E1 : Hid (s.pcs.length = s.am.length) := e1
  clear e1
  by_cases e2 : s.chs.length ≠ want.length
  · have d2 : (((s.chs.length : Nat) : Int) != ((want.length : Nat) : Int)) = true := by simp; omega
    have HE : Hid (goodSn s = false) := by show _ = _; unfold goodSn; rw [HWT.out, goodChs_len e2]; simp
    clear e2
    go_wp2
    go_ret
    exact ⟨ret_bool HE.out.symm, BW1⟩
  replace e2 : s.chs.length = want.length := Decidable.of_not_not e2
  have d2 : (((s.chs.length : Nat) : Int) != ((want.length : Nat) : Int)) = false := by simp [e2]
  have E2 : Hid (s.chs.length = want.length) := e2
  clear e2
  go_wp2_with fail
  cases G6 : inB s.sent 0 1000 with
  | false =>
    have HE : Hid (goodSn s = false) := by show _ = _; unfold goodSn; rw [G6]; simp
    refine (l1In_b _ _ _ _ _ G6).mono ?_
    rintro r w2 ⟨rfl, rfl⟩
    go_wp2
    go_ret
    exact ⟨ret_bool HE.out.symm, BW1⟩
  | true =>
  refine (l1In_b _ _ _ _ _ G6).mono ?_
  rintro r w2 ⟨rfl, hw2⟩
  rw [hw2]
  clear hw2 w2
  go_wp2
  go_loopw [5, 45] (fun x y wr => ∃ k : Nat, k ≤ s.am.length ∧ x = .int .i64 (sumTo s.am k) ∧ y = .int .i64 k ∧ allTo s.am 1000 k ∧ pcsTo s.pcs s.am.length k ∧ Below w1.heap.size w1 wr) (fun _ y _ => s.am.length - (intOf y).toNat)
  case atStart => exact ⟨0, Nat.zero_le _, rfl, rfl, fun i hi => absurd hi (Nat.not_lt_zero _), fun i hi => absurd hi (Nat.not_lt_zero _), Below.refl _ _⟩
  case round =>
    obtain ⟨k, hk, rfl, rfl, hall, hpc, hB⟩ := hrel
    have HA : Hid (allTo s.am 1000 k) := hall
    have HPC : Hid (pcsTo s.pcs s.am.length k) := hpc
    have hsum := sumTo_rg k hall (by omega)
    have hs2 := hs1.below hB
    replace q0 := celB hB q0
    replace q1 := celB hB q1
    replace q2 := celB hB q2
    replace q3 := celB hB q3
    replace q4 := celB hB q4
    have BW := stB BW1 hB
    clear hall hpc
    by_cases hlt : k < s.am.length
    · obtain ⟨b, off, rfl, hc⟩ := hs2.am k _ (zA_get hlt)
      cases Gk : inB (zA s.am k) 0 1000 with
      | false =>
        have HE : Hid (goodSn s = false) := by
          show _ = _
          unfold goodSn; rw [allW_bad hlt (inB_f.1 Gk)]; simp
        go_wp2_with (go_at_call 37; refine (l1In_b _ _ _ _ _ Gk).mono ?_; rintro e w' ⟨rfl, rfl⟩)
        go_ret
        exact ⟨ret_bool HE.out.symm, BW⟩
      | true =>
        have hkp : k < s.pcs.length := by have := E1.out; omega
        have hz := inB_t.1 Gk
        generalize hg : goodPc (pcA s.pcs k) k s.am.length = g
        have HG : Hid (goodPc (pcA s.pcs k) k s.am.length = g) := hg
        clear hg
        go_wp2_with (go_at_call 37; refine (l1In_b _ _ _ _ _ Gk).mono ?_; rintro e w' ⟨rfl, rfl⟩)
        refine (l8Picture_any s _ _ _ _ _ _ k _ hs2.pcs hkp hlt).mono ?_
        rintro r w3 ⟨hr, hB3⟩
        rw [HG.out] at hr
        subst hr
        have B3 := stB hB hB3
        have BW3 := stB BW hB3
        clear hB3 hs2 q0 q1 q2 q3 q4
        cases g with
        | false =>
          have HE : Hid (goodSn s = false) := by show _ = _; unfold goodSn; rw [goodPcs_bad hkp HG.out]; simp
          go_wp2
          go_ret
          exact ⟨ret_bool HE.out.symm, BW3⟩
        | true =>
          have HN : Hid (allTo s.am 1000 (k + 1) ∧ pcsTo s.pcs s.am.length (k + 1)) := ⟨allTo_succ HA.out hz, pcsTo_succ HPC.out HG.out⟩
          go_wp2
          go_roundw
          case rel => exact ⟨k + 1, by omega, rfl, by go_num, HN.out.1, HN.out.2, B3⟩
          case measure => simp [intOf]; omega
    · obtain rfl : k = s.am.length := by omega
      have HGP : Hid (goodPcs s.pcs s.am.length = true) := goodPcs_t.2 ⟨E1.out, by rw [E1.out]; exact HPC.out⟩
      have hwant2 := hwant.below hB
      clear hs1 BW1 hB hwant HPC
      go_wp2
      obtain ⟨w2, hw2⟩ : ∃ w2, w2 = wr := ⟨_, rfl⟩
      subst hw2
      go_loopw [66] (fun y wr' => ∃ k : Nat, k ≤ s.chs.length ∧ y = .int .i64 k ∧ chsTo s.chs want k ∧ fitTo s.pcs s.chs k ∧ Below w2.heap.size w2 wr') (fun y _ => s.chs.length - (intOf y).toNat)
      case atStart => exact ⟨0, Nat.zero_le _, rfl, fun i hi => absurd hi (Nat.not_lt_zero _), fun i hi => absurd hi (Nat.not_lt_zero _), Below.refl _ _⟩
      case round =>
        obtain ⟨k, hk, rfl, hch, hft, hB⟩ := hrel
        have HCT : Hid (chsTo s.chs want k) := hch
        have HT : Hid (fitTo s.pcs s.chs k) := hft
        have hsr := hs2.below hB
        have kk := five8 hB ⟨q0, q1, q2, q3, q4⟩
        have BW0 := BW
        replace BW := stB BW hB
        clear hch hft q0 q1 q2 q3 q4 hs2
        by_cases hlt : k < s.chs.length
        · have hlt2 : k < want.length := by have := E2.out; omega
          obtain ⟨kb, ob, rfl, r2, k2, x0, x1, x2, qw, mw⟩ := hsr.chs k _ (chA_get hlt)
          obtain ⟨kd, od, rfl, t2, j2, z0, z1, z2, -, -⟩ := (hwant2.below hB) k _ (chA_get hlt2)
          have hmem : chA want k ∈ chansL s.am.length := by rw [HWT.out]; exact List.mem_of_getElem? (chA_get hlt2)
          obtain ⟨i, j, hi, hj, f1, f2, -⟩ := chansL_mem hmem
          have HD : Hid ((chA want k).fr = (i : Int) ∧ (chA want k).to = (j : Int)) := ⟨f1, f2⟩
          rw [f1] at z0
          rw [f2] at z1
          obtain ⟨c, hcq⟩ : ∃ c, chA s.chs k = c := ⟨_, rfl⟩
          have HP : Hid (chA s.chs k = c) := hcq
          rw [hcq] at x0 x1 x2 qw mw
          clear hmem f1 f2 hcq z2
          have hk1 : (k : Int) < (want.length : Int) := by omega
          have y0 : ∀ o, (wr.alloc o).cell? ⟨kd, od + k * 3, none⟩ = some (.int .i64 (i : Int)) := fun o => celB (alB wr o) z0
          have y1 : ∀ o, (wr.alloc o).cell? ⟨kd, od + k * 3 + 1, none⟩ = some (.int .i64 (j : Int)) := fun o => celB (alB wr o) z1
          have BN : ∀ o, Below w2.heap.size w2 (wr.alloc o) := fun o => hB.alloc hB.size o
          clear z0 z1
          unfold maxLen at mw
          by_cases e1 : c.fr ≠ (i : Int)
          · have d3 : (c.fr != (i : Int)) = true := by simp; exact e1
            have HE : Hid (goodSn s = false) := by
              show _ = _
              have hf : goodChs s.chs want = false := goodChs_bad hlt (by rw [HP.out, ← Bool.not_eq_true, okCh_t, HD.out.1]; exact fun g => e1 g.1)
              unfold goodSn; rw [HWT.out, hf]; simp
            clear e1 qw
            go_wp2
            go_quiet (fail)
            go_wp2
            go_ret
            exact ⟨ret_bool HE.out.symm, stB BW0 (below_drewN (BN _) _)⟩
          replace e1 : c.fr = (i : Int) := Decidable.of_not_not e1
          by_cases e2 : c.to ≠ (j : Int)
          · have d3 : (c.to != (j : Int)) = true := by simp; exact e2
            have HE : Hid (goodSn s = false) := by
              show _ = _
              have hf : goodChs s.chs want = false := goodChs_bad hlt (by rw [HP.out, ← Bool.not_eq_true, okCh_t, HD.out.2]; exact fun g => e2 g.2.1)
              unfold goodSn; rw [HWT.out, hf]; simp
            clear e2 qw
            go_wp2
            go_quiet (fail)
            go_wp2
            go_ret
            exact ⟨ret_bool HE.out.symm, stB BW0 (below_drewN (BN _) _)⟩
          replace e2 : c.to = (j : Int) := Decidable.of_not_not e2
          obtain ⟨fr, to, way⟩ := c
          simp only at e1 e2 x0 x1 x2 qw mw
          subst e1 e2
          by_cases e3 : (8 : Int) < (way.length : Int)
          · have HE : Hid (goodSn s = false) := by
              show _ = _
              have hf : goodChs s.chs want = false := goodChs_bad hlt (by rw [HP.out, ← Bool.not_eq_true, okCh_t]; exact fun g => by have := g.2.2.1; simp only at this; omega)
              unfold goodSn; rw [HWT.out, hf]; simp
            clear qw
            go_wp2
            go_quiet (fail)
            go_wp2
            go_ret
            exact ⟨ret_bool HE.out.symm, stB BW0 (below_drewN (BN _) _)⟩
          go_wp2
          go_quiet (fail)
          go_wp2
          have HKC := kk
          have v0 : ((wr.alloc (.cells #[.int .i64 (i : Int), .int .i64 (j : Int), .slice r2 way.length k2] 78)).drewN nq).cell? ⟨wr.heap.size, 0, none⟩ = some (.int .i64 (i : Int)) := by simp [go_sem]
          have v1 : ((wr.alloc (.cells #[.int .i64 (i : Int), .int .i64 (j : Int), .slice r2 way.length k2] 78)).drewN nq).cell? ⟨wr.heap.size, 1, none⟩ = some (.int .i64 (j : Int)) := by simp [go_sem]
          have v2 : ((wr.alloc (.cells #[.int .i64 (i : Int), .int .i64 (j : Int), .slice r2 way.length k2] 78)).drewN nq).cell? ⟨wr.heap.size, 2, none⟩ = some (.slice r2 way.length k2) := by simp [go_sem]
          have BD : Below wr.heap.size wr ((wr.alloc (.cells #[.int .i64 (i : Int), .int .i64 (j : Int), .slice r2 way.length k2] 78)).drewN nq) := below_drewN (alB wr _) nq
          generalize (wr.alloc (.cells #[.int .i64 (i : Int), .int .i64 (j : Int), .slice r2 way.length k2] 78)).drewN nq = w4 at *
          have qw4 := qw.below BD
          have hs4 := hsr.below BD
          have kk4 := five8 BD kk
          have B4 := stB hB BD
          have BW4 := stB BW BD
          have hln : Hid (goodPcs s.pcs s.am.length = true) := HGP
          have l8 : way.length ≤ 8 := by omega
          clear y0 y1 x0 x1 x2 qw kk HKC hsr BN BD
          go_loop [98] (fun y => ∃ m : Nat, m ≤ way.length ∧ y = .int .i64 m ∧ allTo way 1000 m) (fun y => way.length - (intOf y).toNat)
          case atStart => exact ⟨0, Nat.zero_le _, rfl, fun i hi => absurd hi (Nat.not_lt_zero _)⟩
          case round =>
            obtain ⟨m, hm, rfl, hal⟩ := hrel
            have HAL : Hid (allTo way 1000 m) := hal
            clear hal
            by_cases hlt3 : m < way.length
            · obtain ⟨b, off, rfl, hc⟩ := qw4 m _ (zA_get hlt3)
              cases Gk : inB (zA way m) 0 1000 with
              | false =>
                have HE : Hid (goodSn s = false) := by
                  show _ = _
                  have hf : goodChs s.chs want = false := goodChs_bad hlt (by rw [HP.out, ← Bool.not_eq_true, okCh_t]; exact fun g => inB_f.1 Gk (g.2.2.2 m hlt3))
                  unfold goodSn; rw [HWT.out, hf]; simp
                go_wp2_with (go_at_call 37; refine (l1In_b _ _ _ _ _ Gk).mono ?_; rintro e w' ⟨rfl, rfl⟩)
                go_ret
                exact ⟨ret_bool HE.out.symm, BW4⟩
              | true =>
                have HN : Hid (allTo way 1000 (m + 1)) := allTo_succ HAL.out (inB_t.1 Gk)
                go_wp2_with (go_at_call 37; refine (l1In_b _ _ _ _ _ Gk).mono ?_; rintro e w' ⟨rfl, rfl⟩)
                go_round
                case rel => exact ⟨m + 1, by omega, by go_num, HN.out⟩
                case measure => simp [intOf]; omega
            · obtain rfl : m = way.length := by omega
              have HC : Hid (chsTo s.chs want (k + 1)) := chsTo_succ HCT.out (by rw [HP.out, okCh_t, HD.out.1, HD.out.2]; exact ⟨rfl, rfl, l8, HAL.out⟩)
              have hz8 := zerosTo_le way way.length
              replace hz8 : zeros way ≤ way.length := hz8
              go_wp2_with fail
              refine (l8Marks_any _ _ way _ _ _ qw4 l8).mono ?_
              rintro r w5 ⟨rfl, hB5⟩
              replace v0 := celB hB5 v0
              replace v1 := celB hB5 v1
              replace v2 := celB hB5 v2
              have hs5 := hs4.below hB5
              have kk5 := five8 hB5 kk4
              have BB5' := stB B4 hB5
              have BW5 := stB BW4 hB5
              obtain ⟨s0, s1, s2, s3, s4⟩ := kk5
              obtain ⟨gi1, gi2, gi3⟩ := goodPcs_lens hln.out hi
              obtain ⟨gj1, gj2, gj3⟩ := goodPcs_lens hln.out hj
              obtain ⟨kp, op, rfl, u2, n2, u3, n3, -, -, -, t3, -, -, qc, mc⟩ := hs5.pcs j _ (pcA_get gj1)
              obtain ⟨kp', op', epp, u2', n2', u3', n3', t0, -, -, -, -, -, -, -⟩ := hs5.pcs i _ (pcA_get gi1)
              simp only [Option.some.injEq, Addr.mk.injEq, and_true] at epp
              obtain ⟨rfl, rfl⟩ := epp
              obtain ⟨bc, oc, rfl, tc⟩ := qc i _ (boA_get (by omega))
              have hic : (i : Int) < ((pcA s.pcs j).cl.length : Int) := by omega
              have hip : (i : Int) < (s.pcs.length : Int) := by omega
              have hjp : (j : Int) < (s.pcs.length : Int) := by omega
              unfold maxLen at mc
              generalize hgv : boA (pcA s.pcs j).cl i = g at tc
              generalize htv : (pcA s.pcs i).tk = t at t0
              have HGV : Hid (boA (pcA s.pcs j).cl i = g) := hgv
              have HTV : Hid ((pcA s.pcs i).tk = t) := htv
              clear hB5 qw4 hs4 hs5 kk4 qc hln gi2 gi3 gj2 gj3 hgv htv hwant2
              cases g with
              | true =>
                cases t with
                | true =>
                  go_wp2
                  go_quiet (fail)
                  have BB5 := below_drewN BB5' nq
                  have BF := below_drewN BW5 nq
                  by_cases hmw : zeros way + 1 = 1
                  · have dm : (((zeros way : Nat) : Int) + 1 != 1) = false := by first | (simp; done) | (simp; omega)
                    have HF : Hid (fitTo s.pcs s.chs (k + 1)) := fitTo_succ HT.out (by rw [HP.out]; unfold marksC wantC; simp only [Int.toNat_natCast]; rw [HGV.out, HTV.out]; simp only [b01]; first | (simp; done) | (simp; omega))
                    clear hmw
                    go_wp2
                    go_roundw
                    case rel => exact ⟨k + 1, by omega, by go_num, HC.out, HF.out, BB5⟩
                    case measure => simp [intOf]; omega
                  · have dm : (((zeros way : Nat) : Int) + 1 != 1) = true := by first | (simp; done) | (simp; omega)
                    have HE : Hid (goodSn s = false) := by
                      show _ = _
                      have hf : fitS s.pcs s.chs = false := fitS_bad hlt (by rw [HP.out]; unfold marksC wantC; simp only [Int.toNat_natCast]; rw [HGV.out, HTV.out]; simp only [b01]; first | (simp; done) | (simp; omega))
                      unfold goodSn; rw [hf]; simp
                    clear hmw
                    go_wp2
                    go_ret
                    exact ⟨ret_bool HE.out.symm, BF⟩
                | false =>
                  go_wp2
                  go_quiet (fail)
                  have BB5 := below_drewN BB5' nq
                  have BF := below_drewN BW5 nq
                  by_cases hmw : zeros way + 1 = 0
                  · have dm : (((zeros way : Nat) : Int) + 1 != 0) = false := by first | (simp; done) | (simp; omega)
                    have HF : Hid (fitTo s.pcs s.chs (k + 1)) := fitTo_succ HT.out (by rw [HP.out]; unfold marksC wantC; simp only [Int.toNat_natCast]; rw [HGV.out, HTV.out]; simp only [b01]; first | (simp; done) | (simp; omega))
                    clear hmw
                    go_wp2
                    go_roundw
                    case rel => exact ⟨k + 1, by omega, by go_num, HC.out, HF.out, BB5⟩
                    case measure => simp [intOf]; omega
                  · have dm : (((zeros way : Nat) : Int) + 1 != 0) = true := by first | (simp; done) | (simp; omega)
                    have HE : Hid (goodSn s = false) := by
                      show _ = _
                      have hf : fitS s.pcs s.chs = false := fitS_bad hlt (by rw [HP.out]; unfold marksC wantC; simp only [Int.toNat_natCast]; rw [HGV.out, HTV.out]; simp only [b01]; first | (simp; done) | (simp; omega))
                      unfold goodSn; rw [hf]; simp
                    clear hmw
                    go_wp2
                    go_ret
                    exact ⟨ret_bool HE.out.symm, BF⟩
              | false =>
                cases t with
                | true =>
                  go_wp2
                  go_quiet (fail)
                  have BB5 := below_drewN BB5' nq
                  have BF := below_drewN BW5 nq
                  by_cases hmw : zeros way = 1
                  · have dm : (((zeros way : Nat) : Int) != 1) = false := by first | (simp; done) | (simp; omega)
                    have HF : Hid (fitTo s.pcs s.chs (k + 1)) := fitTo_succ HT.out (by rw [HP.out]; unfold marksC wantC; simp only [Int.toNat_natCast]; rw [HGV.out, HTV.out]; simp only [b01]; first | (simp; done) | (simp; omega))
                    clear hmw
                    go_wp2
                    go_roundw
                    case rel => exact ⟨k + 1, by omega, by go_num, HC.out, HF.out, BB5⟩
                    case measure => simp [intOf]; omega
                  · have dm : (((zeros way : Nat) : Int) != 1) = true := by first | (simp; done) | (simp; omega)
                    have HE : Hid (goodSn s = false) := by
                      show _ = _
                      have hf : fitS s.pcs s.chs = false := fitS_bad hlt (by rw [HP.out]; unfold marksC wantC; simp only [Int.toNat_natCast]; rw [HGV.out, HTV.out]; simp only [b01]; first | (simp; done) | (simp; omega))
                      unfold goodSn; rw [hf]; simp
                    clear hmw
                    go_wp2
                    go_ret
                    exact ⟨ret_bool HE.out.symm, BF⟩
                | false =>
                  go_wp2
                  go_quiet (fail)
                  have BB5 := below_drewN BB5' nq
                  have BF := below_drewN BW5 nq
                  by_cases hmw : zeros way = 0
                  · have dm : (((zeros way : Nat) : Int) != 0) = false := by first | (simp; done) | (simp; omega)
                    have HF : Hid (fitTo s.pcs s.chs (k + 1)) := fitTo_succ HT.out (by rw [HP.out]; unfold marksC wantC; simp only [Int.toNat_natCast]; rw [HGV.out, HTV.out]; simp only [b01]; first | (simp; done) | (simp; omega))
                    clear hmw
                    go_wp2
                    go_roundw
                    case rel => exact ⟨k + 1, by omega, by go_num, HC.out, HF.out, BB5⟩
                    case measure => simp [intOf]; omega
                  · have dm : (((zeros way : Nat) : Int) != 0) = true := by first | (simp; done) | (simp; omega)
                    have HE : Hid (goodSn s = false) := by
                      show _ = _
                      have hf : fitS s.pcs s.chs = false := fitS_bad hlt (by rw [HP.out]; unfold marksC wantC; simp only [Int.toNat_natCast]; rw [HGV.out, HTV.out]; simp only [b01]; first | (simp; done) | (simp; omega))
                      unfold goodSn; rw [hf]; simp
                    clear hmw
                    go_wp2
                    go_ret
                    exact ⟨ret_bool HE.out.symm, BF⟩
        · obtain rfl : k = s.chs.length := by omega
          have hgc : goodChs s.chs (chansL s.am.length) = true := by rw [HWT.out]; exact goodChs_t.2 ⟨E2.out, HCT.out⟩
          have hG : SnG s := ⟨by omega, by omega, HA.out, hgc, HGP.out⟩
          have HL : Hid (goodSn s = ((sumI s.am + onW s.chs == s.total) && inB s.total 0 1000)) := goodSn_last hG (fitS_t.2 HT.out) G6
          have hC1 : s.chs.length ≤ 1000 := by have := hG.chs16; omega
          have hC2 : waysOk s.chs := goodChs_ways hgc
          have hon := hG.on
          obtain ⟨hw1, hw2⟩ := wrapSn (z := sumI s.am + onW s.chs) (by unfold sumI; omega) (by unfold sumI; omega)
          replace hw1 : IntKind.i64.wrap (sumTo s.am s.am.length + onW s.chs) = sumI s.am + onW s.chs := hw1
          replace hw2 : wrap64 (sumTo s.am s.am.length + onW s.chs) = sumI s.am + onW s.chs := hw2
          clear hwant2 hG hgc hon HWT
          by_cases heq : sumI s.am + onW s.chs = s.total
          · have dq : (sumI s.am + onW s.chs == s.total) = true := by simp [heq]
            have HE : Hid (goodSn s = inB s.total 0 1000) := by show _ = _; rw [HL.out, dq]; rfl
            clear heq HL
            go_wp2
            refine wp_region_noPanic ?_
            refine wp_region_held_drew (S := fun w' => w'.cell? ⟨w.heap.size, 0, none⟩ = some (.slice a0 s.am.length c0) ∧ w'.cell? ⟨w.heap.size, 1, none⟩ = some (.slice a1 s.chs.length c1) ∧ w'.cell? ⟨w.heap.size, 2, none⟩ = some (.slice a2 s.pcs.length c2) ∧ w'.cell? ⟨w.heap.size, 3, none⟩ = some (.int .i64 s.sent) ∧ w'.cell? ⟨w.heap.size, 4, none⟩ = some (.int .i64 s.total)) (by kernel_rfl) kk (fun hH => ?_)
            refine wpAnyH_take (i := 0) (oi := ⟨_, _, _, _, _, _⟩) (v := ?ve0) rfl (by kernel_rfl) (by kernel_rfl) (by kernel_rfl) (fun _ _ _ h => h) (Or.inl ⟨by rfl, ?ye0⟩) (by assumption) ?re0
            case ye0 => intro w hSw; (try dsimp only at hSw); go_simp; try with_reducible rfl
            try simp only [Act.put, List.setIfInBounds_toArray, List.set_cons_zero, List.set_cons_succ]
            refine wpAnyH_take (i := 1) (oi := ⟨_, _, _, _, _, _⟩) (v := ?ve1) rfl (by kernel_rfl) (by kernel_rfl) (by kernel_rfl) (fun _ _ _ h => h) (Or.inl ⟨by rfl, ?ye1⟩) (by assumption) ?re1
            case ye1 => intro w hSw; (try dsimp only at hSw); go_simp; try with_reducible rfl
            try simp only [Act.put, List.setIfInBounds_toArray, List.set_cons_zero, List.set_cons_succ]
            refine wpAnyH_take (i := 4) (oi := ⟨_, _, _, _, _, _⟩) (v := ?ve4) rfl (by kernel_rfl) (by kernel_rfl) (by kernel_rfl) (fun _ _ _ h => h) (Or.inl ⟨by rfl, ?ye4⟩) (by assumption) ?re4
            case ye4 => intro w hSw; (try dsimp only at hSw); go_simp; try with_reducible rfl
            try simp only [Act.put, List.setIfInBounds_toArray, List.set_cons_zero, List.set_cons_succ]
            refine wpAnyH_take (i := 5) (oi := ⟨_, _, _, _, _, _⟩) (v := ?ve5) rfl (by kernel_rfl) (by kernel_rfl) (by kernel_rfl) (fun _ _ _ h => h) (Or.inl ⟨by rfl, ?ye5⟩) (by assumption) ?re5
            case ye5 => intro w hSw; (try dsimp only at hSw); go_simp; try with_reducible rfl
            try simp only [Act.put, List.setIfInBounds_toArray, List.set_cons_zero, List.set_cons_succ]
            refine wpAnyH_ready (rs := [2]) (by kernel_rfl) (by simp) ?_
            refine AllReadyH.cons (o := ⟨_, _, _, _, _, _⟩) rfl (fun KK hK => ?_) AllReadyH.nil
            go_simp
            refine (l8OnWay_any s _ _ _ _ _ _ _ (hsr.below (Below.refl _ _).drew).chs hC1 hC2).mono ?_
            rintro r w8 ⟨rfl, hB8⟩
            have B8 : Below wr.heap.size wr w8 := Below.stD hB8
            have kk8 : w8.cell? ⟨w.heap.size, 0, none⟩ = some (.slice a0 s.am.length c0) ∧ w8.cell? ⟨w.heap.size, 1, none⟩ = some (.slice a1 s.chs.length c1) ∧ w8.cell? ⟨w.heap.size, 2, none⟩ = some (.slice a2 s.pcs.length c2) ∧ w8.cell? ⟨w.heap.size, 3, none⟩ = some (.int .i64 s.sent) ∧ w8.cell? ⟨w.heap.size, 4, none⟩ = some (.int .i64 s.total) := five8 B8 kk
            clear hB8
            go_wp2_with fail
            refine hK.out _ _ kk8 (fun hH2 => ?_)
            clear hK KK hH
            try simp only [Act.put, List.setIfInBounds_toArray, List.set_cons_zero, List.set_cons_succ]
            refine wpAnyH_take (i := 3) (oi := ⟨_, _, _, _, _, _⟩) (v := ?ve3) rfl (by kernel_rfl) (by kernel_rfl) (by kernel_rfl) (fun _ _ _ h => h) (Or.inl ⟨by rfl, ?ye3⟩) (by assumption) ?re3
            case ye3 => intro w hSw; (try dsimp only at hSw); go_simp; try with_reducible rfl
            try simp only [Act.put, List.setIfInBounds_toArray, List.set_cons_zero, List.set_cons_succ]
            refine wpAnyH_take (i := 6) (oi := ⟨_, _, _, _, _, _⟩) (v := ?ve6) rfl (by kernel_rfl) (by kernel_rfl) (by kernel_rfl) (fun _ _ _ h => h) (Or.inl ⟨by rfl, ?ye6⟩) (by assumption) ?re6
            case ye6 => intro w hSw; (try dsimp only at hSw); go_simp; try with_reducible rfl
            try simp only [Act.put, List.setIfInBounds_toArray, List.set_cons_zero, List.set_cons_succ]
            refine wpAnyH_take (i := 7) (oi := ⟨_, _, _, _, _, _⟩) (v := ?ve7) rfl (by kernel_rfl) (by kernel_rfl) (by kernel_rfl) (fun _ _ _ h => h) (Or.inl ⟨by rfl, ?ye7⟩) (by assumption) ?re7
            case ye7 => intro w hSw; (try dsimp only at hSw); go_simp; try with_reducible rfl
            try simp only [Act.put, List.setIfInBounds_toArray, List.set_cons_zero, List.set_cons_succ]
            refine wpAnyH_take (i := 8) (oi := ⟨_, _, _, _, _, _⟩) (v := ?ve8) rfl (by kernel_rfl) (by kernel_rfl) (by kernel_rfl) (fun _ _ _ h => h) (Or.inl ⟨by rfl, ?ye8⟩) (by assumption) ?re8
            case ye8 => intro w hSw; (try dsimp only at hSw); go_simp; try with_reducible rfl
            try simp only [Act.put, List.setIfInBounds_toArray, List.set_cons_zero, List.set_cons_succ]
            refine wpAnyH_take (i := 9) (oi := ⟨_, _, _, _, _, _⟩) (v := ?ve9) rfl (by kernel_rfl) (by kernel_rfl) (by kernel_rfl) (fun _ _ _ h => h) (Or.inl ⟨by rfl, ?ye9⟩) (by assumption) ?re9
            case ye9 => intro w hSw; (try dsimp only at hSw); go_simp; try with_reducible rfl
            try simp only [Act.put, List.setIfInBounds_toArray, List.set_cons_zero, List.set_cons_succ]
            refine wpAnyH_ready (rs := [10]) (by kernel_rfl) (by simp) ?_
            refine AllReadyH.cons (o := ⟨_, _, _, _, _, _⟩) rfl (fun KK hK => ?_) AllReadyH.nil
            go_simp
            refine (l1In_any _ _ _ _).mono ?_
            rintro r w9 ⟨rfl, hw9⟩
            have B9 : Below wr.heap.size wr w9 := by rw [hw9]; exact B8
            have kk9 : w9.cell? ⟨w.heap.size, 0, none⟩ = some (.slice a0 s.am.length c0) ∧ w9.cell? ⟨w.heap.size, 1, none⟩ = some (.slice a1 s.chs.length c1) ∧ w9.cell? ⟨w.heap.size, 2, none⟩ = some (.slice a2 s.pcs.length c2) ∧ w9.cell? ⟨w.heap.size, 3, none⟩ = some (.int .i64 s.sent) ∧ w9.cell? ⟨w.heap.size, 4, none⟩ = some (.int .i64 s.total) := five8 B9 kk
            clear hw9
            go_wp2_with fail
            refine hK.out _ _ kk9 (fun hH10 => ?_)
            clear hK KK hH2
            try simp only [Act.put, List.setIfInBounds_toArray, List.set_cons_zero, List.set_cons_succ]
            refine wpAnyH_take (i := 11) (oi := ⟨_, _, _, _, _, _⟩) (v := ?ve11) rfl (by kernel_rfl) (by kernel_rfl) (by kernel_rfl) (fun _ _ _ h => h) (Or.inl ⟨by rfl, ?ye11⟩) (by assumption) ?re11
            case ye11 => intro w hSw; (try dsimp only at hSw); go_simp; try with_reducible rfl
            try simp only [Act.put, List.setIfInBounds_toArray, List.set_cons_zero, List.set_cons_succ]
            refine wpAnyH_take (i := 12) (oi := ⟨_, _, _, _, _, _⟩) (v := ?ve12) rfl (by kernel_rfl) (by kernel_rfl) (by kernel_rfl) (fun _ _ _ h => h) (Or.inl ⟨by rfl, ?ye12⟩) (by assumption) ?re12
            case ye12 => intro w hSw; (try dsimp only at hSw); go_simp; try with_reducible rfl
            try simp only [Act.put, List.setIfInBounds_toArray, List.set_cons_zero, List.set_cons_succ]
            refine wpAnyH_done (by kernel_rfl) (NoPanic.normal ?_) _
            go_wp2
            go_ret
            exact ⟨ret_bool HE.out.symm, stB BW B9⟩
          · have dq : (sumI s.am + onW s.chs == s.total) = false := by simp [heq]
            have HE : Hid (goodSn s = false) := by show _ = _; rw [HL.out, dq]; rfl
            clear heq HL
            go_wp2
            refine wp_region_noPanic ?_
            refine wp_region_held_drew (S := fun w' => w'.cell? ⟨w.heap.size, 0, none⟩ = some (.slice a0 s.am.length c0) ∧ w'.cell? ⟨w.heap.size, 1, none⟩ = some (.slice a1 s.chs.length c1) ∧ w'.cell? ⟨w.heap.size, 2, none⟩ = some (.slice a2 s.pcs.length c2) ∧ w'.cell? ⟨w.heap.size, 3, none⟩ = some (.int .i64 s.sent) ∧ w'.cell? ⟨w.heap.size, 4, none⟩ = some (.int .i64 s.total)) (by kernel_rfl) kk (fun hH => ?_)
            refine wpAnyH_take (i := 0) (oi := ⟨_, _, _, _, _, _⟩) (v := ?vn0) rfl (by kernel_rfl) (by kernel_rfl) (by kernel_rfl) (fun _ _ _ h => h) (Or.inl ⟨by rfl, ?yn0⟩) (by assumption) ?rn0
            case yn0 => intro w hSw; (try dsimp only at hSw); go_simp; try with_reducible rfl
            try simp only [Act.put, List.setIfInBounds_toArray, List.set_cons_zero, List.set_cons_succ]
            refine wpAnyH_take (i := 1) (oi := ⟨_, _, _, _, _, _⟩) (v := ?vn1) rfl (by kernel_rfl) (by kernel_rfl) (by kernel_rfl) (fun _ _ _ h => h) (Or.inl ⟨by rfl, ?yn1⟩) (by assumption) ?rn1
            case yn1 => intro w hSw; (try dsimp only at hSw); go_simp; try with_reducible rfl
            try simp only [Act.put, List.setIfInBounds_toArray, List.set_cons_zero, List.set_cons_succ]
            refine wpAnyH_take (i := 4) (oi := ⟨_, _, _, _, _, _⟩) (v := ?vn4) rfl (by kernel_rfl) (by kernel_rfl) (by kernel_rfl) (fun _ _ _ h => h) (Or.inl ⟨by rfl, ?yn4⟩) (by assumption) ?rn4
            case yn4 => intro w hSw; (try dsimp only at hSw); go_simp; try with_reducible rfl
            try simp only [Act.put, List.setIfInBounds_toArray, List.set_cons_zero, List.set_cons_succ]
            refine wpAnyH_take (i := 5) (oi := ⟨_, _, _, _, _, _⟩) (v := ?vn5) rfl (by kernel_rfl) (by kernel_rfl) (by kernel_rfl) (fun _ _ _ h => h) (Or.inl ⟨by rfl, ?yn5⟩) (by assumption) ?rn5
            case yn5 => intro w hSw; (try dsimp only at hSw); go_simp; try with_reducible rfl
            try simp only [Act.put, List.setIfInBounds_toArray, List.set_cons_zero, List.set_cons_succ]
            refine wpAnyH_ready (rs := [2]) (by kernel_rfl) (by simp) ?_
            refine AllReadyH.cons (o := ⟨_, _, _, _, _, _⟩) rfl (fun KK hK => ?_) AllReadyH.nil
            go_simp
            refine (l8OnWay_any s _ _ _ _ _ _ _ (hsr.below (Below.refl _ _).drew).chs hC1 hC2).mono ?_
            rintro r w8 ⟨rfl, hB8⟩
            have B8 : Below wr.heap.size wr w8 := Below.stD hB8
            have kk8 : w8.cell? ⟨w.heap.size, 0, none⟩ = some (.slice a0 s.am.length c0) ∧ w8.cell? ⟨w.heap.size, 1, none⟩ = some (.slice a1 s.chs.length c1) ∧ w8.cell? ⟨w.heap.size, 2, none⟩ = some (.slice a2 s.pcs.length c2) ∧ w8.cell? ⟨w.heap.size, 3, none⟩ = some (.int .i64 s.sent) ∧ w8.cell? ⟨w.heap.size, 4, none⟩ = some (.int .i64 s.total) := five8 B8 kk
            clear hB8
            go_wp2_with fail
            refine hK.out _ _ kk8 (fun hH2 => ?_)
            clear hK KK hH
            try simp only [Act.put, List.setIfInBounds_toArray, List.set_cons_zero, List.set_cons_succ]
            refine wpAnyH_take (i := 3) (oi := ⟨_, _, _, _, _, _⟩) (v := ?vn3) rfl (by kernel_rfl) (by kernel_rfl) (by kernel_rfl) (fun _ _ _ h => h) (Or.inl ⟨by rfl, ?yn3⟩) (by assumption) ?rn3
            case yn3 => intro w hSw; (try dsimp only at hSw); go_simp; try with_reducible rfl
            try simp only [Act.put, List.setIfInBounds_toArray, List.set_cons_zero, List.set_cons_succ]
            refine wpAnyH_take (i := 6) (oi := ⟨_, _, _, _, _, _⟩) (v := ?vn6) rfl (by kernel_rfl) (by kernel_rfl) (by kernel_rfl) (fun _ _ _ h => h) (Or.inl ⟨by rfl, ?yn6⟩) (by assumption) ?rn6
            case yn6 => intro w hSw; (try dsimp only at hSw); go_simp; try with_reducible rfl
            try simp only [Act.put, List.setIfInBounds_toArray, List.set_cons_zero, List.set_cons_succ]
            refine wpAnyH_take (i := 7) (oi := ⟨_, _, _, _, _, _⟩) (v := ?vn7) rfl (by kernel_rfl) (by kernel_rfl) (by kernel_rfl) (fun _ _ _ h => h) (Or.inl ⟨by rfl, ?yn7⟩) (by assumption) ?rn7
            case yn7 => intro w hSw; (try dsimp only at hSw); go_simp; try with_reducible rfl
            try simp only [Act.put, List.setIfInBounds_toArray, List.set_cons_zero, List.set_cons_succ]
            refine wpAnyH_take (i := 8) (oi := ⟨_, _, _, _, _, _⟩) (v := undef) rfl (by kernel_rfl) (by kernel_rfl) (by kernel_rfl) (fun _ _ _ h => h) (Or.inr ⟨by rfl, rfl⟩) (by assumption) ?_
            try simp only [Act.put, List.setIfInBounds_toArray, List.set_cons_zero, List.set_cons_succ]
            refine wpAnyH_take (i := 9) (oi := ⟨_, _, _, _, _, _⟩) (v := undef) rfl (by kernel_rfl) (by kernel_rfl) (by kernel_rfl) (fun _ _ _ h => h) (Or.inr ⟨by rfl, rfl⟩) (by assumption) ?_
            try simp only [Act.put, List.setIfInBounds_toArray, List.set_cons_zero, List.set_cons_succ]
            refine wpAnyH_take (i := 10) (oi := ⟨_, _, _, _, _, _⟩) (v := undef) rfl (by kernel_rfl) (by kernel_rfl) (by kernel_rfl) (fun _ _ _ h => h) (Or.inr ⟨by rfl, rfl⟩) (by assumption) ?_
            try simp only [Act.put, List.setIfInBounds_toArray, List.set_cons_zero, List.set_cons_succ]
            refine wpAnyH_take (i := 11) (oi := ⟨_, _, _, _, _, _⟩) (v := ?vn11) rfl (by kernel_rfl) (by kernel_rfl) (by kernel_rfl) (fun _ _ _ h => h) (Or.inl ⟨by rfl, ?yn11⟩) (by assumption) ?rn11
            case yn11 => intro w hSw; (try dsimp only at hSw); go_simp; try with_reducible rfl
            try simp only [Act.put, List.setIfInBounds_toArray, List.set_cons_zero, List.set_cons_succ]
            refine wpAnyH_take (i := 12) (oi := ⟨_, _, _, _, _, _⟩) (v := ?vn12) rfl (by kernel_rfl) (by kernel_rfl) (by kernel_rfl) (fun _ _ _ h => h) (Or.inl ⟨by rfl, ?yn12⟩) (by assumption) ?rn12
            case yn12 => intro w hSw; (try dsimp only at hSw); go_simp; try with_reducible rfl
            try simp only [Act.put, List.setIfInBounds_toArray, List.set_cons_zero, List.set_cons_succ]
            refine wpAnyH_done (by kernel_rfl) (NoPanic.normal ?_) _
            go_wp2
            go_ret
            exact ⟨ret_bool HE.out.symm, stB BW B8⟩


end Go.Proofs.Ytaoecafibmfphaa
