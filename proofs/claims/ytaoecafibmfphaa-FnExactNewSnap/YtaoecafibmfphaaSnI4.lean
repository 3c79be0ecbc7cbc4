/-
  Worlds of chapter 8, the program's side: marksSentOn, marksFit.
-/
import Derived.Test.YtaoecafibmfphaaSnI3
namespace Go.Proofs.Ytaoecafibmfphaa
open Go.RowKit

theorem zerosTo_hit {zs : List Int} {k : Nat} (h : zA zs k = 0) : zerosTo zs (k + 1) = zerosTo zs k + 1 := by rw [zerosTo, if_pos h]
theorem zerosTo_miss {zs : List Int} {k : Nat} (h : zA zs k ≠ 0) : zerosTo zs (k + 1) = zerosTo zs k := by rw [zerosTo, if_neg h]

set_option maxRecDepth 100000 in
set_option maxHeartbeats 2000000 in
theorem marksSentOn_any (s : Sn) (a0 a1 a2 : Option Addr) (c0 c1 c2 : Nat) (i j : Nat) (way : List Int) (r2 : Option Addr) (k2 : Nat) (w : World) (hs : SnR w s a0 a1 a2) (hj : j < s.pcs.length) (hi : i < (pcA s.pcs j).cl.length) (h2 : Ints w r2 way) (l2 : way.length ≤ 8) :
    Calls Try.prog 89 #[snV s a0 c0 a1 c1 a2 c2, .agg #[.int .i64 (i : Int), .int .i64 (j : Int), .slice r2 way.length k2]] w fun e w' => e = .returned (.int .i64 ((marksC s.pcs ⟨i, j, way⟩ : Nat) : Int)) ∧ Below w.heap.size w w' := by
  have HB : ∀ x y, Below w.heap.size w ((w.alloc x).alloc y) := fun _ _ => ((Below.refl _ _).alloc (Nat.le_refl _) _).alloc (by simp) _
  obtain ⟨kb, ob, rfl, r3, k3, r4, k4, e0, e1, e2, e3, -, -, q3, m3⟩ := hs.pcs j _ (pcA_get hj)
  obtain ⟨b3, f3, rfl, x3⟩ := q3 i _ (boA_get hi)
  have y3 : ∀ x y, ((w.alloc x).alloc y).cell? ⟨kb, ob + j * 4 + 3, none⟩ = some (.slice (some ⟨b3, f3, none⟩) (pcA s.pcs j).cl.length k4) := fun x y => celB (HB x y) e3
  have z3 : ∀ x y, ((w.alloc x).alloc y).cell? ⟨b3, f3 + i, none⟩ = some (.bool (boA (pcA s.pcs j).cl i)) := fun x y => celB (HB x y) x3
  have HM : Hid (marksC s.pcs ⟨i, j, way⟩ = b01 (boA (pcA s.pcs j).cl i) + zeros way) := by show _ = _; unfold marksC; simp
  obtain ⟨g, hg⟩ : ∃ g, boA (pcA s.pcs j).cl i = g := ⟨_, rfl⟩
  rw [hg] at z3
  have HG : Hid (marksC s.pcs ⟨i, j, way⟩ = b01 g + zeros way) := by show _ = _; rw [HM.out, hg]
  generalize (pcA s.pcs j).cl.length = m at *
  unfold maxLen at m3
  have hj0 : (0 : Int) ≤ (j : Int) := by omega
  have hj1 : (j : Int) < (s.pcs.length : Int) := by omega
  have hi0 : (0 : Int) ≤ (i : Int) := by omega
  have hi1 : (i : Int) < (m : Int) := by omega
  clear hs q3 x3 HM hg e0 e1 e2 e3
  have hz : ∀ k, Hid (zerosTo way k ≤ k) := fun k => zerosTo_le way k
  cases g with
  | true =>
    go_enter Try.func89, Try.ntmps89
    go_wp2
    go_quiet (fail)
    go_wp2
    go_loop [5, 24] (fun x y => ∃ k : Nat, k ≤ way.length ∧ x = .int .i64 ((1 + zerosTo way k : Nat) : Int) ∧ y = .int .i64 k) (fun _ y => way.length - (intOf y).toNat)
    case atStart => exact ⟨0, Nat.zero_le _, rfl, rfl⟩
    case round =>
      obtain ⟨k, hk, rfl, rfl⟩ := hrel
      have hzk := (hz k).out
      by_cases hlt : k < way.length
      · obtain ⟨b, off, rfl, hc0⟩ := h2 k _ (zA_get hlt)
        have hc : ∀ x y n, (((w.alloc x).alloc y).drewN n).cell? ⟨b, off + k, none⟩ = some (.int .i64 (zA way k)) := fun x y n => celB (below_drewN (HB x y) n) hc0
        clear h2 hc0
        by_cases e : zA way k = 0
        · have d : (zA way k == 0) = true := by simp [e]
          have HN : Hid (zerosTo way (k + 1) = zerosTo way k + 1) := zerosTo_hit e
          clear e
          go_wp2
          go_round
          case rel => exact ⟨k + 1, by omega, by rw [HN.out]; go_num, by go_num⟩
          case measure => simp [intOf]; omega
        · have d : (zA way k == 0) = false := by simp [e]
          have HN : Hid (zerosTo way (k + 1) = zerosTo way k) := zerosTo_miss e
          clear e
          go_wp2
          go_round
          case rel => exact ⟨k + 1, by omega, by rw [HN.out], by go_num⟩
          case measure => simp [intOf]; omega
      · obtain rfl : k = way.length := by omega
        go_wp2
        go_ret
        exact ⟨by rw [HG.out]; rfl, by first | exact below_drewN (HB _ _) _ | exact HB _ _⟩
  | false =>
    go_enter Try.func89, Try.ntmps89
    go_wp2
    go_quiet (fail)
    go_wp2
    go_loop [5, 24] (fun x y => ∃ k : Nat, k ≤ way.length ∧ x = .int .i64 ((0 + zerosTo way k : Nat) : Int) ∧ y = .int .i64 k) (fun _ y => way.length - (intOf y).toNat)
    case atStart => exact ⟨0, Nat.zero_le _, rfl, rfl⟩
    case round =>
      obtain ⟨k, hk, rfl, rfl⟩ := hrel
      have hzk := (hz k).out
      by_cases hlt : k < way.length
      · obtain ⟨b, off, rfl, hc0⟩ := h2 k _ (zA_get hlt)
        have hc : ∀ x y n, (((w.alloc x).alloc y).drewN n).cell? ⟨b, off + k, none⟩ = some (.int .i64 (zA way k)) := fun x y n => celB (below_drewN (HB x y) n) hc0
        clear h2 hc0
        by_cases e : zA way k = 0
        · have d : (zA way k == 0) = true := by simp [e]
          have HN : Hid (zerosTo way (k + 1) = zerosTo way k + 1) := zerosTo_hit e
          clear e
          go_wp2
          go_round
          case rel => exact ⟨k + 1, by omega, by rw [HN.out]; go_num, by go_num⟩
          case measure => simp [intOf]; omega
        · have d : (zA way k == 0) = false := by simp [e]
          have HN : Hid (zerosTo way (k + 1) = zerosTo way k) := zerosTo_miss e
          clear e
          go_wp2
          go_round
          case rel => exact ⟨k + 1, by omega, by rw [HN.out], by go_num⟩
          case measure => simp [intOf]; omega
      · obtain rfl : k = way.length := by omega
        go_wp2
        go_ret
        exact ⟨ret_int (by rw [HG.out]; simp [b01, zeros]), by first | exact below_drewN (HB _ _) _ | exact HB _ _⟩

/-- What makes the reading of a world's channels and pictures safe. -/
structure SnE (s : Sn) (n : Nat) : Prop where
  n4 : n ≤ 1048576
  len : s.pcs.length = n
  cl : ∀ k, k < n → (pcA s.pcs k).cl.length = n
  ends : ∀ k, k < s.chs.length → ∃ i j : Nat, i < n ∧ j < n ∧ (chA s.chs k).fr = i ∧ (chA s.chs k).to = j ∧ (chA s.chs k).way.length ≤ 8

theorem snE_of {s : Sn} {n : Nat} (hn : n ≤ 1048576) (h1 : goodChs s.chs (chansL n) = true) (h2 : goodPcs s.pcs n = true) : SnE s n :=
  ⟨hn, (goodPcs_t.1 h2).1, fun k hk => (goodPcs_lens h2 hk).2.2, fun k hk => by
    obtain ⟨i, j, hi, hj, e1, e2, e3, -⟩ := goodChs_ends h1 hk
    exact ⟨i, j, hi, hj, e1, e2, e3⟩⟩

theorem b01_t : b01 true = 1 := rfl
theorem b01_f : b01 false = 0 := rfl

set_option maxRecDepth 100000 in
set_option maxHeartbeats 4000000 in
theorem marksFit_any (s : Sn) (n : Nat) (a0 a1 a2 : Option Addr) (c0 c1 c2 : Nat) (w : World) (hs : SnR w s a0 a1 a2) (hl : SnB s) (hE : SnE s n) :
    Calls Try.prog 64 #[snV s a0 c0 a1 c1 a2 c2] w fun e w' => e = .returned (.bool (fitS s.pcs s.chs)) ∧ Below w.heap.size w w' := by
  have hlc := hl.chs
  have hlp := hl.pcs
  obtain ⟨B0, hB0⟩ : ∃ B0, (w.alloc (.cells #[.slice a0 s.am.length c0, .slice a1 s.chs.length c1, .slice a2 s.pcs.length c2, .int .i64 s.sent, .int .i64 s.total] 26)) = B0 := ⟨_, rfl⟩
  have p0 : B0.cell? ⟨w.heap.size, 0, none⟩ = some (.slice a0 s.am.length c0) := by rw [← hB0]; simp [go_sem]
  have p1 : B0.cell? ⟨w.heap.size, 1, none⟩ = some (.slice a1 s.chs.length c1) := by rw [← hB0]; simp [go_sem]
  have p2 : B0.cell? ⟨w.heap.size, 2, none⟩ = some (.slice a2 s.pcs.length c2) := by rw [← hB0]; simp [go_sem]
  have p3 : B0.cell? ⟨w.heap.size, 3, none⟩ = some (.int .i64 s.sent) := by rw [← hB0]; simp [go_sem]
  have p4 : B0.cell? ⟨w.heap.size, 4, none⟩ = some (.int .i64 s.total) := by rw [← hB0]; simp [go_sem]
  have bB : Below w.heap.size w B0 := by rw [← hB0]; exact alB _ _
  have hs0 := hs.below bB
  go_enter Try.func64, Try.ntmps64
  go_wp2
  clear hB0 hs
  go_loopw [9] (fun x wr => ∃ k : Nat, k ≤ s.chs.length ∧ x = .int .i64 k ∧ fitTo s.pcs s.chs k ∧ Below B0.heap.size B0 wr) (fun x _ => s.chs.length - (intOf x).toNat)
  case atStart => exact ⟨0, Nat.zero_le _, rfl, fun i hi => absurd hi (Nat.not_lt_zero _), Below.refl _ _⟩
  case round =>
    obtain ⟨k, hk, rfl, hok, hB⟩ := hrel
    have HO : Hid (fitTo s.pcs s.chs k) := hok
    clear hok
    have BW := stB bB hB
    by_cases hlt : k < s.chs.length
    · have hs1 := hs0.below hB
      replace p0 := celB hB p0
      replace p1 := celB hB p1
      replace p2 := celB hB p2
      replace p3 := celB hB p3
      replace p4 := celB hB p4
      obtain ⟨i, j, hi, hj, e1, e2, e3⟩ := hE.ends k hlt
      obtain ⟨kb, ob, rfl, r2, k2, d0, d1, d2, q2, m2⟩ := hs1.chs k _ (chA_get hlt)
      obtain ⟨b, hb⟩ : ∃ b, chA s.chs k = b := ⟨_, rfl⟩
      have HP : Hid (chA s.chs k = b) := hb
      rw [hb] at d0 d1 d2 m2 q2 e1 e2 e3
      clear hb
      obtain ⟨fr, to, way⟩ := b
      simp only at e1 e2 e3 d0 d1 d2 m2 q2
      subst e1 e2
      have hcl := hE.cl j hj
      have hli : i < s.pcs.length := by have := hE.len; omega
      have hlj : j < s.pcs.length := by have := hE.len; omega
      obtain ⟨kp, op, rfl, u2, v2, u3, v3, f0, f1, f2, f3, -, -, -, -⟩ := hs1.pcs i _ (pcA_get hli)
      have HW : Hid (wantC s.pcs ⟨i, j, way⟩ = b01 (pcA s.pcs i).tk) := by show _ = _; unfold wantC; simp
      obtain ⟨g, hg⟩ : ∃ g, (pcA s.pcs i).tk = g := ⟨_, rfl⟩
      rw [hg] at f0
      replace HW : Hid (wantC s.pcs ⟨i, j, way⟩ = b01 g) := by show _ = _; rw [HW.out, hg]
      have hs2 : ∀ o, SnR (wr.alloc o) s a0 (some ⟨kb, ob, none⟩) (some ⟨kp, op, none⟩) := fun o => hs1.below (alB wr o)
      have q2' : ∀ o, Ints (wr.alloc o) r2 way := fun o => q2.below (alB wr o)
      have y0 : ∀ o, (wr.alloc o).cell? ⟨w.heap.size, 0, none⟩ = some (.slice a0 s.am.length c0) := fun o => celB (alB wr o) p0
      have y1 : ∀ o, (wr.alloc o).cell? ⟨w.heap.size, 1, none⟩ = some (.slice (some ⟨kb, ob, none⟩) s.chs.length c1) := fun o => celB (alB wr o) p1
      have y2 : ∀ o, (wr.alloc o).cell? ⟨w.heap.size, 2, none⟩ = some (.slice (some ⟨kp, op, none⟩) s.pcs.length c2) := fun o => celB (alB wr o) p2
      have y3 : ∀ o, (wr.alloc o).cell? ⟨w.heap.size, 3, none⟩ = some (.int .i64 s.sent) := fun o => celB (alB wr o) p3
      have y4 : ∀ o, (wr.alloc o).cell? ⟨w.heap.size, 4, none⟩ = some (.int .i64 s.total) := fun o => celB (alB wr o) p4
      have yf : ∀ o, (wr.alloc o).cell? ⟨kp, op + i * 4, none⟩ = some (.bool g) := fun o => celB (alB wr o) f0
      have hi0 : (0 : Int) ≤ (i : Int) := by omega
      have hi1 : (i : Int) < (s.pcs.length : Int) := by omega
      have BN : ∀ o, Below B0.heap.size B0 (wr.alloc o) := fun o => hB.alloc hB.size o
      have HC : Hid (i < (pcA s.pcs j).cl.length) := by show _ < _; omega
      clear hs0 hs1 hE p0 p1 p2 p3 p4 q2 hg f0 f1 f2 f3 hB hcl
      have hmz : Hid (marksC s.pcs ⟨i, j, way⟩ ≤ 9) := by
        show _ ≤ _
        unfold marksC b01 zeros
        have := zerosTo_le way way.length
        simp only
        split <;> omega
      cases g with
      | true =>
        go_wp2_with fail
        refine (marksSentOn_any s _ _ _ _ _ _ i j way _ _ _ (hs2 _) hlj HC.out (q2' _) e3).mono ?_
        rintro r w1 ⟨rfl, hB1⟩
        have BB := stB (BN _) hB1
        clear hB1 BN q2' hs2 y0 y1 y2 y3 y4 yf
        generalize hm : marksC s.pcs ⟨i, j, way⟩ = m at hmz
        have hm9 := hmz.out
        by_cases hmw : m = 1
        · have d : (((m : Nat) : Int) != 1) = false := by simp [hmw]
          have HF : Hid (marksC s.pcs (chA s.chs k) = wantC s.pcs (chA s.chs k)) := by show _ = _; rw [HP.out, HW.out, hm, hmw]; rfl
          clear hmw hm
          go_wp2
          go_roundw
          case rel => exact ⟨k + 1, by omega, by go_num, fitTo_succ HO.out HF.out, BB⟩
          case measure => simp [intOf]; omega
        · have d : (((m : Nat) : Int) != 1) = true := by simp; omega
          have HF : Hid (marksC s.pcs (chA s.chs k) ≠ wantC s.pcs (chA s.chs k)) := by show _ ≠ _; rw [HP.out, HW.out, hm]; exact hmw
          clear hmw hm
          go_wp2
          go_ret
          exact ⟨ret_bool (fitS_bad hlt HF.out).symm, stB bB BB⟩
      | false =>
        go_wp2_with fail
        refine (marksSentOn_any s _ _ _ _ _ _ i j way _ _ _ (hs2 _) hlj HC.out (q2' _) e3).mono ?_
        rintro r w1 ⟨rfl, hB1⟩
        have BB := stB (BN _) hB1
        clear hB1 BN q2' hs2 y0 y1 y2 y3 y4 yf
        generalize hm : marksC s.pcs ⟨i, j, way⟩ = m at hmz
        have hm9 := hmz.out
        by_cases hmw : m = 0
        · have d : (((m : Nat) : Int) != 0) = false := by simp [hmw]
          have HF : Hid (marksC s.pcs (chA s.chs k) = wantC s.pcs (chA s.chs k)) := by show _ = _; rw [HP.out, HW.out, hm, hmw]; rfl
          clear hmw hm
          go_wp2
          go_roundw
          case rel => exact ⟨k + 1, by omega, by go_num, fitTo_succ HO.out HF.out, BB⟩
          case measure => simp [intOf]; omega
        · have d : (((m : Nat) : Int) != 0) = true := by simp; omega
          have HF : Hid (marksC s.pcs (chA s.chs k) ≠ wantC s.pcs (chA s.chs k)) := by show _ ≠ _; rw [HP.out, HW.out, hm]; exact hmw
          clear hmw hm
          go_wp2
          go_ret
          exact ⟨ret_bool (fitS_bad hlt HF.out).symm, stB bB BB⟩
    · obtain rfl : k = s.chs.length := by omega
      clear hs0 hE
      go_wp2
      go_ret
      exact ⟨ret_bool (fitS_t.2 HO.out).symm, BW⟩

end Go.Proofs.Ytaoecafibmfphaa
