/-
  Elections, the specification's side: spec.GoodElection, LeaderOf, MayLead. Made by mkels3.py.
-/
import Derived.Test.YtjicphdjipihfaaElS2
namespace Go.Proofs.Ytjicphdjipihfaa
open Go.RowKit

theorem goodEl_1 {s : El} (h : s.svs.all (okSv s.svs.length) = false) : goodEl s = false := by simp [goodEl, h]
theorem goodEl_2 {s : El} (h : s.post.all (okLt s.svs) = false) : goodEl s = false := by simp [goodEl, h]
theorem goodEl_3 {s : El} (h : s.led.all (okVt s.svs.length) = false) : goodEl s = false := by simp [goodEl, h]
theorem goodEl_4 {s : El} (h1 : s.svs.all (okSv s.svs.length) = true) (h2 : s.post.all (okLt s.svs) = true) (h3 : s.led.all (okVt s.svs.length) = true) : goodEl s = (inB s.svs.length 1 5 && (decide (s.post.length ≤ 20) && decide (s.led.length ≤ 80))) := by simp only [goodEl, h1, h2, h3, Bool.true_and]

set_option maxRecDepth 100000 in
set_option maxHeartbeats 8000000 in
theorem specGoodEl_any (s : El) (a0 a1 a2 : Option Addr) (c0 c1 c2 : Nat) (w : World) (hs : ElR w s a0 a1 a2) (hl : ElL s) :
    Calls Try.prog 18 #[elV s a0 c0 a1 c1 a2 c2] w fun e w' => e = .returned (.bool (goodEl s)) ∧ Below w.heap.size w w' := by
  have m0 := hl.svs
  have m1 := hl.post
  have m2 := hl.led
  unfold maxLen at m0 m1 m2
  obtain ⟨u0, hu0⟩ : ∃ u0, (w.alloc (.cells #[.slice a0 s.svs.length c0, .slice a1 s.post.length c1, .slice a2 s.led.length c2] 28)) = u0 := ⟨_, rfl⟩
  have kk : u0.cell? ⟨w.heap.size, 0, none⟩ = some (.slice a0 s.svs.length c0) ∧ u0.cell? ⟨w.heap.size, 1, none⟩ = some (.slice a1 s.post.length c1) ∧ u0.cell? ⟨w.heap.size, 2, none⟩ = some (.slice a2 s.led.length c2) := by rw [← hu0]; simp [go_sem]
  have bB : Below w.heap.size w u0 := by rw [← hu0]; exact alEl _ _
  obtain ⟨q0, q1, q2⟩ := kk
  go_enter Try.func18, Try.ntmps18
  go_wp2
  clear hu0
  go_loopw [12] (fun i wr => ∃ k : Nat, k ≤ s.svs.length ∧ i = .int .i64 k ∧ Hid (allTo (okSv s.svs.length) s.svs k) ∧ Below u0.heap.size u0 wr) (fun i _ => s.svs.length - (intOf i).toNat)
  case atStart => exact ⟨0, Nat.zero_le _, rfl, allTo_zero _ _, Below.refl _ _⟩
  case round =>
    skip
    obtain ⟨k, hk, rfl, HO, hB⟩ := hrel
    have p0 := celB hB q0
    have p1 := celB hB q1
    have p2 := celB hB q2
    by_cases hlt : k < s.svs.length
    · obtain ⟨b, hkb⟩ := getSv hlt
      obtain ⟨kb, ob, rfl, r4, k4, r5, k5, e0, e1, e2, e3, e4, e5, z4, m4, z5, m5⟩ := ((hs.svs.below bB).below hB) k b hkb
      have HK : Hid (s.svs[k]? = some b) := hkb
      have hki : (k : Int) < (s.svs.length : Int) := by omega
      clear hkb
      have y0 : ∀ o, (wr.alloc o).cell? ⟨w.heap.size, 0, none⟩ = some (.slice (some ⟨kb, ob, none⟩) s.svs.length c0) := fun o => celB (alEl wr o) p0
      have y1 : ∀ o, (wr.alloc o).cell? ⟨w.heap.size, 1, none⟩ = some (.slice a1 s.post.length c1) := fun o => celB (alEl wr o) p1
      have y2 : ∀ o, (wr.alloc o).cell? ⟨w.heap.size, 2, none⟩ = some (.slice a2 s.led.length c2) := fun o => celB (alEl wr o) p2
      obtain ⟨g, hg⟩ : ∃ g, okSv s.svs.length b = g := ⟨_, rfl⟩
      have HG : Hid (okSv s.svs.length b = g) := hg
      clear hg
      go_wp2_with fail
      refine (l9Server_any s _ _ _ _ _ _ b _ _ _ _ _ (z4.below (alEl _ _)) m4 (z5.below (alEl _ _)) m5).mono ?_
      rintro r w1 ⟨hr, hB1⟩
      rw [HG.out] at hr
      subst hr
      have BB := stEl (stEl hB (alEl _ _)) hB1
      clear hB1 y0 y1 y2 e0 e1 e2 e3 e4 e5
      cases g
      · have HE : Hid (goodEl s = false) := goodEl_1 (all_bad HK.out HG.out)
        go_wp2
        go_ret
        exact ⟨ret_bool HE.out.symm, stEl bB BB⟩
      · have HN : Hid (allTo (okSv s.svs.length) s.svs (k + 1)) := allTo_succ HO.out HK.out HG.out
        go_wp2
        go_roundw
        case rel => exact ⟨k + 1, by omega, by go_num, HN.out, BB⟩
        case measure => simp [intOf]; omega
    · obtain rfl : k = s.svs.length := by omega
      have Hsvs : Hid (s.svs.all (okSv s.svs.length) = true) := all_done HO.out
      clear HO
      go_wp2
      go_loopw [24] (fun i wr => ∃ k : Nat, k ≤ s.post.length ∧ i = .int .i64 k ∧ Hid (allTo (okLt s.svs) s.post k) ∧ Below u0.heap.size u0 wr) (fun i _ => s.post.length - (intOf i).toNat)
      case atStart => exact ⟨0, Nat.zero_le _, rfl, allTo_zero _ _, hB⟩
      case round =>
        clear hB
        obtain ⟨k, hk, rfl, HO, hB⟩ := hrel
        have p0 := celB hB q0
        have p1 := celB hB q1
        have p2 := celB hB q2
        by_cases hlt : k < s.post.length
        · obtain ⟨b, hkb⟩ := getLt hlt
          obtain ⟨kb, ob, rfl, e0, e1, e2, e3, e4, e5, e6⟩ := ((hs.post.below bB).below hB) k b hkb
          have HK : Hid (s.post[k]? = some b) := hkb
          have hki : (k : Int) < (s.post.length : Int) := by omega
          clear hkb
          have y0 : ∀ o, (wr.alloc o).cell? ⟨w.heap.size, 0, none⟩ = some (.slice a0 s.svs.length c0) := fun o => celB (alEl wr o) p0
          have y1 : ∀ o, (wr.alloc o).cell? ⟨w.heap.size, 1, none⟩ = some (.slice (some ⟨kb, ob, none⟩) s.post.length c1) := fun o => celB (alEl wr o) p1
          have y2 : ∀ o, (wr.alloc o).cell? ⟨w.heap.size, 2, none⟩ = some (.slice a2 s.led.length c2) := fun o => celB (alEl wr o) p2
          obtain ⟨g, hg⟩ : ∃ g, okLt s.svs b = g := ⟨_, rfl⟩
          have HG : Hid (okLt s.svs b = g) := hg
          clear hg
          have hsv := ((hs.svs.below bB).below hB)
          go_wp2_with fail
          refine (l9Letter_any s _ _ _ _ _ _ b _ (hsv.below (alEl _ _)) hl.svs).mono ?_
          rintro r w1 ⟨hr, hB1⟩
          rw [HG.out] at hr
          subst hr
          have BB := stEl (stEl hB (alEl _ _)) hB1
          clear hB1 y0 y1 y2 e0 e1 e2 e3 e4 e5 e6
          cases g
          · have HE : Hid (goodEl s = false) := goodEl_2 (all_bad HK.out HG.out)
            go_wp2
            go_ret
            exact ⟨ret_bool HE.out.symm, stEl bB BB⟩
          · have HN : Hid (allTo (okLt s.svs) s.post (k + 1)) := allTo_succ HO.out HK.out HG.out
            go_wp2
            go_roundw
            case rel => exact ⟨k + 1, by omega, by go_num, HN.out, BB⟩
            case measure => simp [intOf]; omega
        · obtain rfl : k = s.post.length := by omega
          have Hpost : Hid (s.post.all (okLt s.svs) = true) := all_done HO.out
          clear HO
          go_wp2
          go_loopw [36] (fun i wr => ∃ k : Nat, k ≤ s.led.length ∧ i = .int .i64 k ∧ Hid (allTo (okVt s.svs.length) s.led k) ∧ Below u0.heap.size u0 wr) (fun i _ => s.led.length - (intOf i).toNat)
          case atStart => exact ⟨0, Nat.zero_le _, rfl, allTo_zero _ _, hB⟩
          case round =>
            clear hB
            obtain ⟨k, hk, rfl, HO, hB⟩ := hrel
            have p0 := celB hB q0
            have p1 := celB hB q1
            have p2 := celB hB q2
            by_cases hlt : k < s.led.length
            · obtain ⟨b, hkb⟩ := getVt hlt
              obtain ⟨kb, ob, rfl, e0, e1⟩ := ((hs.led.below bB).below hB) k b hkb
              have HK : Hid (s.led[k]? = some b) := hkb
              have hki : (k : Int) < (s.led.length : Int) := by omega
              clear hkb
              have y0 : ∀ o, (wr.alloc o).cell? ⟨w.heap.size, 0, none⟩ = some (.slice a0 s.svs.length c0) := fun o => celB (alEl wr o) p0
              have y1 : ∀ o, (wr.alloc o).cell? ⟨w.heap.size, 1, none⟩ = some (.slice a1 s.post.length c1) := fun o => celB (alEl wr o) p1
              have y2 : ∀ o, (wr.alloc o).cell? ⟨w.heap.size, 2, none⟩ = some (.slice (some ⟨kb, ob, none⟩) s.led.length c2) := fun o => celB (alEl wr o) p2
              cases hg : inB b.term 0 100 with
              | false =>
                have HE : Hid (goodEl s = false) := goodEl_3 (all_bad HK.out (by simp [okVt, hg]))
                go_wp2_with (go_at_call 32; refine (l1In_c _ _ _ _ _ hg).mono ?_; rintro e w' ⟨rfl, rfl⟩)
                go_ret
                exact ⟨ret_bool HE.out.symm, stEl bB (stEl hB (alEl _ _))⟩
              | true =>
                obtain ⟨g, ht⟩ : ∃ g, thB s.svs.length b.ldr = g := ⟨_, rfl⟩
                have HG : Hid (okVt s.svs.length b = g) := by show _ = _; simp [okVt, hg, ht]
                go_wp2_with (first | (go_at_call 32; refine (l1In_c _ _ _ _ _ hg).mono ?_; rintro e w' ⟨rfl, rfl⟩) | (go_at_call 52; refine (l9There_q s _ _ _ _ _ _ _ _ _ ht).mono ?_; rintro r w1 ⟨rfl, hB1⟩; have BB := stEl (stEl hB (alEl _ _)) hB1; clear y0 y1 y2 e0 e1 hB1; cases g))
                · have HE : Hid (goodEl s = false) := goodEl_3 (all_bad HK.out HG.out)
                  go_ret
                  exact ⟨ret_bool HE.out.symm, stEl bB BB⟩
                · have HN : Hid (allTo (okVt s.svs.length) s.led (k + 1)) := allTo_succ HO.out HK.out HG.out
                  go_roundw
                  case rel => exact ⟨k + 1, by omega, by go_num, HN.out, BB⟩
                  case measure => simp [intOf]; omega
            · obtain rfl : k = s.led.length := by omega
              have Hled : Hid (s.led.all (okVt s.svs.length) = true) := all_done HO.out
              clear HO
              have HF : Hid (goodEl s = (inB s.svs.length 1 5 && (decide (s.post.length ≤ 20) && decide (s.led.length ≤ 80)))) := goodEl_4 Hsvs.out Hpost.out Hled.out
              cases hg : inB s.svs.length 1 5 with
              | false =>
                have HE : Hid (goodEl s = false) := by show _ = _; rw [HF.out, hg]; rfl
                go_wp2_with (go_at_call 32; refine (l1In_c _ _ _ _ _ hg).mono ?_; rintro e w' ⟨rfl, rfl⟩)
                go_ret
                exact ⟨ret_bool HE.out.symm, stEl bB hB⟩
              | true =>
                by_cases h1 : s.post.length ≤ 20
                · have d1 : (s.post.length : Int) ≤ 20 := by omega
                  obtain ⟨b, hb⟩ : ∃ b, decide (s.led.length ≤ 80) = b := ⟨_, rfl⟩
                  have HE : Hid (goodEl s = b) := by show _ = _; rw [HF.out, hg, decide_eq_true h1, hb]; rfl
                  have hb' : decide ((s.led.length : Int) ≤ 80) = b := by rw [← hb]; exact decide_eq_decide.2 (by omega)
                  clear h1
                  go_wp2_with (go_at_call 32; refine (l1In_c _ _ _ _ _ hg).mono ?_; rintro e w' ⟨rfl, rfl⟩)
                  go_ret
                  exact ⟨ret_bool (by first | exact HE.out.symm | (rw [HE.out, ← hb']) | (rw [HE.out, ← hb])), stEl bB hB⟩
                · have d1 : ¬ (s.post.length : Int) ≤ 20 := by omega
                  have HE : Hid (goodEl s = false) := by show _ = _; rw [HF.out, decide_eq_false h1]; simp
                  clear h1
                  go_wp2_with (go_at_call 32; refine (l1In_c _ _ _ _ _ hg).mono ?_; rintro e w' ⟨rfl, rfl⟩)
                  go_ret
                  exact ⟨ret_bool HE.out.symm, stEl bB hB⟩

end Go.Proofs.Ytjicphdjipihfaa
