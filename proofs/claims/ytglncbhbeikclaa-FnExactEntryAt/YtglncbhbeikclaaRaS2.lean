/-
  Rafts, the specification's side: l10Mail. Made by mkras.py.
-/
import Derived.Test.YtglncbhbeikclaaRaS
namespace Go.Proofs.Ytglncbhbeikclaa
open Go.RowKit

set_option maxRecDepth 100000 in
set_option maxHeartbeats 16000000 in
theorem l10Mail_any (s : Ra) (a0 a1 : Option Addr) (c0 c1 : Nat) (m : Ma) (r6 : Option Addr) (k6 : Nat) (w : World) (q6 : Ens w r6 m.entry) (m6 : m.entry.length ≤ maxLen) :
    Calls Try.prog 46 #[raV s a0 c0 a1 c1, .agg #[.bool m.reply, .int .i64 m.fr, .int .i64 m.to, .int .i64 m.term, .int .i64 m.prev, .int .i64 m.pterm, .slice r6 m.entry.length k6, .int .i64 m.commit, .int .i64 m.mat]] w fun e w' => e = .returned (.bool (okMa s.prs.length m)) ∧ Below w.heap.size w w' := by
  have HB : ∀ x y, Below w.heap.size w ((w.alloc x).alloc y) := fun _ _ => ((Below.refl _ _).alloc (Nat.le_refl _) _).alloc (by simp) _
  have hm6 := m6
  unfold maxLen at hm6
  cases h1 : thB s.prs.length m.fr with
  | false =>
    have HE : Hid (okMa s.prs.length m = false) := by show _ = _; simp [okMa, h1]
    go_enter Try.func46, Try.ntmps46
    go_wp2_with fail
    refine (l10There_q s _ _ _ _ _ _ _ h1).mono ?_
    rintro r w1 ⟨rfl, hB⟩
    have BB := stRa (HB _ _) hB
    have n0 : w1.cell? ⟨w.heap.size, 0, none⟩ = some (.slice a0 s.prs.length c0) := celB hB (by simp [go_sem])
    have n1 : w1.cell? ⟨w.heap.size, 1, none⟩ = some (.slice a1 s.mail.length c1) := celB hB (by simp [go_sem])
    have e0 : w1.cell? ⟨w.heap.size + 1, 0, none⟩ = some (.bool m.reply) := celB hB (by simp [go_sem])
    have e1 : w1.cell? ⟨w.heap.size + 1, 1, none⟩ = some (.int .i64 m.fr) := celB hB (by simp [go_sem])
    have e2 : w1.cell? ⟨w.heap.size + 1, 2, none⟩ = some (.int .i64 m.to) := celB hB (by simp [go_sem])
    have e3 : w1.cell? ⟨w.heap.size + 1, 3, none⟩ = some (.int .i64 m.term) := celB hB (by simp [go_sem])
    have e4 : w1.cell? ⟨w.heap.size + 1, 4, none⟩ = some (.int .i64 m.prev) := celB hB (by simp [go_sem])
    have e5 : w1.cell? ⟨w.heap.size + 1, 5, none⟩ = some (.int .i64 m.pterm) := celB hB (by simp [go_sem])
    have e6 : w1.cell? ⟨w.heap.size + 1, 6, none⟩ = some (.slice r6 m.entry.length k6) := celB hB (by simp [go_sem])
    have e7 : w1.cell? ⟨w.heap.size + 1, 7, none⟩ = some (.int .i64 m.commit) := celB hB (by simp [go_sem])
    have e8 : w1.cell? ⟨w.heap.size + 1, 8, none⟩ = some (.int .i64 m.mat) := celB hB (by simp [go_sem])
    clear hB
    go_wp2
    go_ret
    exact ⟨ret_bool HE.out.symm, BB⟩
  | true =>
    cases h2 : thB s.prs.length m.to with
    | false =>
      have HE : Hid (okMa s.prs.length m = false) := by show _ = _; simp [okMa, h2]
      go_enter Try.func46, Try.ntmps46
      go_wp2_with fail
      refine (l10There_q s _ _ _ _ _ _ _ h1).mono ?_
      rintro r w1 ⟨rfl, hB⟩
      have BB := stRa (HB _ _) hB
      have n0 : w1.cell? ⟨w.heap.size, 0, none⟩ = some (.slice a0 s.prs.length c0) := celB hB (by simp [go_sem])
      have n1 : w1.cell? ⟨w.heap.size, 1, none⟩ = some (.slice a1 s.mail.length c1) := celB hB (by simp [go_sem])
      have e0 : w1.cell? ⟨w.heap.size + 1, 0, none⟩ = some (.bool m.reply) := celB hB (by simp [go_sem])
      have e1 : w1.cell? ⟨w.heap.size + 1, 1, none⟩ = some (.int .i64 m.fr) := celB hB (by simp [go_sem])
      have e2 : w1.cell? ⟨w.heap.size + 1, 2, none⟩ = some (.int .i64 m.to) := celB hB (by simp [go_sem])
      have e3 : w1.cell? ⟨w.heap.size + 1, 3, none⟩ = some (.int .i64 m.term) := celB hB (by simp [go_sem])
      have e4 : w1.cell? ⟨w.heap.size + 1, 4, none⟩ = some (.int .i64 m.prev) := celB hB (by simp [go_sem])
      have e5 : w1.cell? ⟨w.heap.size + 1, 5, none⟩ = some (.int .i64 m.pterm) := celB hB (by simp [go_sem])
      have e6 : w1.cell? ⟨w.heap.size + 1, 6, none⟩ = some (.slice r6 m.entry.length k6) := celB hB (by simp [go_sem])
      have e7 : w1.cell? ⟨w.heap.size + 1, 7, none⟩ = some (.int .i64 m.commit) := celB hB (by simp [go_sem])
      have e8 : w1.cell? ⟨w.heap.size + 1, 8, none⟩ = some (.int .i64 m.mat) := celB hB (by simp [go_sem])
      clear hB
      go_wp2_with fail
      refine (l10There_q s _ _ _ _ _ _ _ h2).mono ?_
      rintro r w2 ⟨rfl, hB⟩
      replace BB := stRa BB hB
      replace n0 := celB hB n0
      replace n1 := celB hB n1
      replace e0 := celB hB e0
      replace e1 := celB hB e1
      replace e2 := celB hB e2
      replace e3 := celB hB e3
      replace e4 := celB hB e4
      replace e5 := celB hB e5
      replace e6 := celB hB e6
      replace e7 := celB hB e7
      replace e8 := celB hB e8
      clear hB
      go_wp2
      go_ret
      exact ⟨ret_bool HE.out.symm, BB⟩
    | true =>
      by_cases h3 : m.fr = m.to
      · have d3 : (m.fr == m.to) = true := by simp [h3]
        have HE : Hid (okMa s.prs.length m = false) := by show _ = _; simp [okMa, h3]
        clear h3
        go_enter Try.func46, Try.ntmps46
        go_wp2_with fail
        refine (l10There_q s _ _ _ _ _ _ _ h1).mono ?_
        rintro r w1 ⟨rfl, hB⟩
        have BB := stRa (HB _ _) hB
        have n0 : w1.cell? ⟨w.heap.size, 0, none⟩ = some (.slice a0 s.prs.length c0) := celB hB (by simp [go_sem])
        have n1 : w1.cell? ⟨w.heap.size, 1, none⟩ = some (.slice a1 s.mail.length c1) := celB hB (by simp [go_sem])
        have e0 : w1.cell? ⟨w.heap.size + 1, 0, none⟩ = some (.bool m.reply) := celB hB (by simp [go_sem])
        have e1 : w1.cell? ⟨w.heap.size + 1, 1, none⟩ = some (.int .i64 m.fr) := celB hB (by simp [go_sem])
        have e2 : w1.cell? ⟨w.heap.size + 1, 2, none⟩ = some (.int .i64 m.to) := celB hB (by simp [go_sem])
        have e3 : w1.cell? ⟨w.heap.size + 1, 3, none⟩ = some (.int .i64 m.term) := celB hB (by simp [go_sem])
        have e4 : w1.cell? ⟨w.heap.size + 1, 4, none⟩ = some (.int .i64 m.prev) := celB hB (by simp [go_sem])
        have e5 : w1.cell? ⟨w.heap.size + 1, 5, none⟩ = some (.int .i64 m.pterm) := celB hB (by simp [go_sem])
        have e6 : w1.cell? ⟨w.heap.size + 1, 6, none⟩ = some (.slice r6 m.entry.length k6) := celB hB (by simp [go_sem])
        have e7 : w1.cell? ⟨w.heap.size + 1, 7, none⟩ = some (.int .i64 m.commit) := celB hB (by simp [go_sem])
        have e8 : w1.cell? ⟨w.heap.size + 1, 8, none⟩ = some (.int .i64 m.mat) := celB hB (by simp [go_sem])
        clear hB
        go_wp2_with fail
        refine (l10There_q s _ _ _ _ _ _ _ h2).mono ?_
        rintro r w2 ⟨rfl, hB⟩
        replace BB := stRa BB hB
        replace n0 := celB hB n0
        replace n1 := celB hB n1
        replace e0 := celB hB e0
        replace e1 := celB hB e1
        replace e2 := celB hB e2
        replace e3 := celB hB e3
        replace e4 := celB hB e4
        replace e5 := celB hB e5
        replace e6 := celB hB e6
        replace e7 := celB hB e7
        replace e8 := celB hB e8
        clear hB
        go_wp2
        go_ret
        exact ⟨ret_bool HE.out.symm, BB⟩
      have d3 : (m.fr == m.to) = false := by simp [h3]
      have h3' : Hid (¬ m.fr = m.to) := h3
      clear h3
      cases h4 : inB m.term 0 100 with
      | false =>
        have HE : Hid (okMa s.prs.length m = false) := by show _ = _; simp [okMa, h4]
        go_enter Try.func46, Try.ntmps46
        go_wp2_with fail
        refine (l10There_q s _ _ _ _ _ _ _ h1).mono ?_
        rintro r w1 ⟨rfl, hB⟩
        have BB := stRa (HB _ _) hB
        have n0 : w1.cell? ⟨w.heap.size, 0, none⟩ = some (.slice a0 s.prs.length c0) := celB hB (by simp [go_sem])
        have n1 : w1.cell? ⟨w.heap.size, 1, none⟩ = some (.slice a1 s.mail.length c1) := celB hB (by simp [go_sem])
        have e0 : w1.cell? ⟨w.heap.size + 1, 0, none⟩ = some (.bool m.reply) := celB hB (by simp [go_sem])
        have e1 : w1.cell? ⟨w.heap.size + 1, 1, none⟩ = some (.int .i64 m.fr) := celB hB (by simp [go_sem])
        have e2 : w1.cell? ⟨w.heap.size + 1, 2, none⟩ = some (.int .i64 m.to) := celB hB (by simp [go_sem])
        have e3 : w1.cell? ⟨w.heap.size + 1, 3, none⟩ = some (.int .i64 m.term) := celB hB (by simp [go_sem])
        have e4 : w1.cell? ⟨w.heap.size + 1, 4, none⟩ = some (.int .i64 m.prev) := celB hB (by simp [go_sem])
        have e5 : w1.cell? ⟨w.heap.size + 1, 5, none⟩ = some (.int .i64 m.pterm) := celB hB (by simp [go_sem])
        have e6 : w1.cell? ⟨w.heap.size + 1, 6, none⟩ = some (.slice r6 m.entry.length k6) := celB hB (by simp [go_sem])
        have e7 : w1.cell? ⟨w.heap.size + 1, 7, none⟩ = some (.int .i64 m.commit) := celB hB (by simp [go_sem])
        have e8 : w1.cell? ⟨w.heap.size + 1, 8, none⟩ = some (.int .i64 m.mat) := celB hB (by simp [go_sem])
        clear hB
        go_wp2_with fail
        refine (l10There_q s _ _ _ _ _ _ _ h2).mono ?_
        rintro r w2 ⟨rfl, hB⟩
        replace BB := stRa BB hB
        replace n0 := celB hB n0
        replace n1 := celB hB n1
        replace e0 := celB hB e0
        replace e1 := celB hB e1
        replace e2 := celB hB e2
        replace e3 := celB hB e3
        replace e4 := celB hB e4
        replace e5 := celB hB e5
        replace e6 := celB hB e6
        replace e7 := celB hB e7
        replace e8 := celB hB e8
        clear hB
        go_wp2_with (go_at_call 35; refine (l1In_any _ _ _ _).mono ?_; rintro e w' ⟨he, hw⟩; rw [hw]; clear hw w'; (first | rw [h4] at he); subst he)
        go_ret
        exact ⟨ret_bool HE.out.symm, BB⟩
      | true =>
        cases hrp : m.reply with
        | true =>
          have HR : Hid (m.reply = true) := hrp
          clear hrp
          by_cases g1p : ¬ (m.prev = 0)
          · have dg1 : (m.prev == 0) = false := by first | (simp [g1p]; done) | (simp; omega)
            have HE : Hid (okMa s.prs.length m = false) := by show _ = _; simp [okMa, okRe, h1, h2, h3'.out, h4, HR.out, g1p]
            clear g1p
            go_enter Try.func46, Try.ntmps46
            go_wp2_with fail
            refine (l10There_q s _ _ _ _ _ _ _ h1).mono ?_
            rintro r w1 ⟨rfl, hB⟩
            have BB := stRa (HB _ _) hB
            have n0 : w1.cell? ⟨w.heap.size, 0, none⟩ = some (.slice a0 s.prs.length c0) := celB hB (by simp [go_sem])
            have n1 : w1.cell? ⟨w.heap.size, 1, none⟩ = some (.slice a1 s.mail.length c1) := celB hB (by simp [go_sem])
            have e0 : w1.cell? ⟨w.heap.size + 1, 0, none⟩ = some (.bool true) := celB hB (by simp [go_sem])
            have e1 : w1.cell? ⟨w.heap.size + 1, 1, none⟩ = some (.int .i64 m.fr) := celB hB (by simp [go_sem])
            have e2 : w1.cell? ⟨w.heap.size + 1, 2, none⟩ = some (.int .i64 m.to) := celB hB (by simp [go_sem])
            have e3 : w1.cell? ⟨w.heap.size + 1, 3, none⟩ = some (.int .i64 m.term) := celB hB (by simp [go_sem])
            have e4 : w1.cell? ⟨w.heap.size + 1, 4, none⟩ = some (.int .i64 m.prev) := celB hB (by simp [go_sem])
            have e5 : w1.cell? ⟨w.heap.size + 1, 5, none⟩ = some (.int .i64 m.pterm) := celB hB (by simp [go_sem])
            have e6 : w1.cell? ⟨w.heap.size + 1, 6, none⟩ = some (.slice r6 m.entry.length k6) := celB hB (by simp [go_sem])
            have e7 : w1.cell? ⟨w.heap.size + 1, 7, none⟩ = some (.int .i64 m.commit) := celB hB (by simp [go_sem])
            have e8 : w1.cell? ⟨w.heap.size + 1, 8, none⟩ = some (.int .i64 m.mat) := celB hB (by simp [go_sem])
            clear hB
            go_wp2_with fail
            refine (l10There_q s _ _ _ _ _ _ _ h2).mono ?_
            rintro r w2 ⟨rfl, hB⟩
            replace BB := stRa BB hB
            replace n0 := celB hB n0
            replace n1 := celB hB n1
            replace e0 := celB hB e0
            replace e1 := celB hB e1
            replace e2 := celB hB e2
            replace e3 := celB hB e3
            replace e4 := celB hB e4
            replace e5 := celB hB e5
            replace e6 := celB hB e6
            replace e7 := celB hB e7
            replace e8 := celB hB e8
            clear hB
            go_wp2_with (go_at_call 35; refine (l1In_any _ _ _ _).mono ?_; rintro e w' ⟨he, hw⟩; rw [hw]; clear hw w'; (first | rw [h4] at he); subst he)
            go_ret
            exact ⟨ret_bool HE.out.symm, BB⟩
          replace g1p : m.prev = 0 := Decidable.of_not_not g1p
          have dg1 : (m.prev == 0) = true := by first | (simp [g1p]; done) | (simp; omega)
          have g1 : Hid (m.prev = 0) := g1p
          clear g1p
          by_cases g2p : ¬ (m.pterm = 0)
          · have dg2 : (m.pterm == 0) = false := by first | (simp [g2p]; done) | (simp; omega)
            have HE : Hid (okMa s.prs.length m = false) := by show _ = _; simp [okMa, okRe, h1, h2, h3'.out, h4, HR.out, g1.out, g2p]
            clear g2p
            go_enter Try.func46, Try.ntmps46
            go_wp2_with fail
            refine (l10There_q s _ _ _ _ _ _ _ h1).mono ?_
            rintro r w1 ⟨rfl, hB⟩
            have BB := stRa (HB _ _) hB
            have n0 : w1.cell? ⟨w.heap.size, 0, none⟩ = some (.slice a0 s.prs.length c0) := celB hB (by simp [go_sem])
            have n1 : w1.cell? ⟨w.heap.size, 1, none⟩ = some (.slice a1 s.mail.length c1) := celB hB (by simp [go_sem])
            have e0 : w1.cell? ⟨w.heap.size + 1, 0, none⟩ = some (.bool true) := celB hB (by simp [go_sem])
            have e1 : w1.cell? ⟨w.heap.size + 1, 1, none⟩ = some (.int .i64 m.fr) := celB hB (by simp [go_sem])
            have e2 : w1.cell? ⟨w.heap.size + 1, 2, none⟩ = some (.int .i64 m.to) := celB hB (by simp [go_sem])
            have e3 : w1.cell? ⟨w.heap.size + 1, 3, none⟩ = some (.int .i64 m.term) := celB hB (by simp [go_sem])
            have e4 : w1.cell? ⟨w.heap.size + 1, 4, none⟩ = some (.int .i64 m.prev) := celB hB (by simp [go_sem])
            have e5 : w1.cell? ⟨w.heap.size + 1, 5, none⟩ = some (.int .i64 m.pterm) := celB hB (by simp [go_sem])
            have e6 : w1.cell? ⟨w.heap.size + 1, 6, none⟩ = some (.slice r6 m.entry.length k6) := celB hB (by simp [go_sem])
            have e7 : w1.cell? ⟨w.heap.size + 1, 7, none⟩ = some (.int .i64 m.commit) := celB hB (by simp [go_sem])
            have e8 : w1.cell? ⟨w.heap.size + 1, 8, none⟩ = some (.int .i64 m.mat) := celB hB (by simp [go_sem])
            clear hB
            go_wp2_with fail
            refine (l10There_q s _ _ _ _ _ _ _ h2).mono ?_
            rintro r w2 ⟨rfl, hB⟩
            replace BB := stRa BB hB
            replace n0 := celB hB n0
            replace n1 := celB hB n1
            replace e0 := celB hB e0
            replace e1 := celB hB e1
            replace e2 := celB hB e2
            replace e3 := celB hB e3
            replace e4 := celB hB e4
            replace e5 := celB hB e5
            replace e6 := celB hB e6
            replace e7 := celB hB e7
            replace e8 := celB hB e8
            clear hB
            go_wp2_with (go_at_call 35; refine (l1In_any _ _ _ _).mono ?_; rintro e w' ⟨he, hw⟩; rw [hw]; clear hw w'; (first | rw [h4] at he); subst he)
            go_ret
            exact ⟨ret_bool HE.out.symm, BB⟩
          replace g2p : m.pterm = 0 := Decidable.of_not_not g2p
          have dg2 : (m.pterm == 0) = true := by first | (simp [g2p]; done) | (simp; omega)
          have g2 : Hid (m.pterm = 0) := g2p
          clear g2p
          by_cases g3p : ¬ (m.entry.length = 0)
          · have dg3 : (((m.entry.length : Nat) : Int) == 0) = false := by first | (simp [g3p]; done) | (simp; omega)
            have HE : Hid (okMa s.prs.length m = false) := by show _ = _; simp [okMa, okRe, h1, h2, h3'.out, h4, HR.out, g1.out, g2.out, g3p]
            clear g3p
            go_enter Try.func46, Try.ntmps46
            go_wp2_with fail
            refine (l10There_q s _ _ _ _ _ _ _ h1).mono ?_
            rintro r w1 ⟨rfl, hB⟩
            have BB := stRa (HB _ _) hB
            have n0 : w1.cell? ⟨w.heap.size, 0, none⟩ = some (.slice a0 s.prs.length c0) := celB hB (by simp [go_sem])
            have n1 : w1.cell? ⟨w.heap.size, 1, none⟩ = some (.slice a1 s.mail.length c1) := celB hB (by simp [go_sem])
            have e0 : w1.cell? ⟨w.heap.size + 1, 0, none⟩ = some (.bool true) := celB hB (by simp [go_sem])
            have e1 : w1.cell? ⟨w.heap.size + 1, 1, none⟩ = some (.int .i64 m.fr) := celB hB (by simp [go_sem])
            have e2 : w1.cell? ⟨w.heap.size + 1, 2, none⟩ = some (.int .i64 m.to) := celB hB (by simp [go_sem])
            have e3 : w1.cell? ⟨w.heap.size + 1, 3, none⟩ = some (.int .i64 m.term) := celB hB (by simp [go_sem])
            have e4 : w1.cell? ⟨w.heap.size + 1, 4, none⟩ = some (.int .i64 m.prev) := celB hB (by simp [go_sem])
            have e5 : w1.cell? ⟨w.heap.size + 1, 5, none⟩ = some (.int .i64 m.pterm) := celB hB (by simp [go_sem])
            have e6 : w1.cell? ⟨w.heap.size + 1, 6, none⟩ = some (.slice r6 m.entry.length k6) := celB hB (by simp [go_sem])
            have e7 : w1.cell? ⟨w.heap.size + 1, 7, none⟩ = some (.int .i64 m.commit) := celB hB (by simp [go_sem])
            have e8 : w1.cell? ⟨w.heap.size + 1, 8, none⟩ = some (.int .i64 m.mat) := celB hB (by simp [go_sem])
            clear hB
            go_wp2_with fail
            refine (l10There_q s _ _ _ _ _ _ _ h2).mono ?_
            rintro r w2 ⟨rfl, hB⟩
            replace BB := stRa BB hB
            replace n0 := celB hB n0
            replace n1 := celB hB n1
            replace e0 := celB hB e0
            replace e1 := celB hB e1
            replace e2 := celB hB e2
            replace e3 := celB hB e3
            replace e4 := celB hB e4
            replace e5 := celB hB e5
            replace e6 := celB hB e6
            replace e7 := celB hB e7
            replace e8 := celB hB e8
            clear hB
            go_wp2_with (go_at_call 35; refine (l1In_any _ _ _ _).mono ?_; rintro e w' ⟨he, hw⟩; rw [hw]; clear hw w'; (first | rw [h4] at he); subst he)
            go_ret
            exact ⟨ret_bool HE.out.symm, BB⟩
          replace g3p : m.entry.length = 0 := Decidable.of_not_not g3p
          have dg3 : (((m.entry.length : Nat) : Int) == 0) = true := by first | (simp [g3p]; done) | (simp; omega)
          have g3 : Hid (m.entry.length = 0) := g3p
          clear g3p
          by_cases g4p : ¬ (m.commit = 0)
          · have dg4 : (m.commit == 0) = false := by first | (simp [g4p]; done) | (simp; omega)
            have HE : Hid (okMa s.prs.length m = false) := by show _ = _; simp [okMa, okRe, h1, h2, h3'.out, h4, HR.out, g1.out, g2.out, g3.out, g4p]
            clear g4p
            go_enter Try.func46, Try.ntmps46
            go_wp2_with fail
            refine (l10There_q s _ _ _ _ _ _ _ h1).mono ?_
            rintro r w1 ⟨rfl, hB⟩
            have BB := stRa (HB _ _) hB
            have n0 : w1.cell? ⟨w.heap.size, 0, none⟩ = some (.slice a0 s.prs.length c0) := celB hB (by simp [go_sem])
            have n1 : w1.cell? ⟨w.heap.size, 1, none⟩ = some (.slice a1 s.mail.length c1) := celB hB (by simp [go_sem])
            have e0 : w1.cell? ⟨w.heap.size + 1, 0, none⟩ = some (.bool true) := celB hB (by simp [go_sem])
            have e1 : w1.cell? ⟨w.heap.size + 1, 1, none⟩ = some (.int .i64 m.fr) := celB hB (by simp [go_sem])
            have e2 : w1.cell? ⟨w.heap.size + 1, 2, none⟩ = some (.int .i64 m.to) := celB hB (by simp [go_sem])
            have e3 : w1.cell? ⟨w.heap.size + 1, 3, none⟩ = some (.int .i64 m.term) := celB hB (by simp [go_sem])
            have e4 : w1.cell? ⟨w.heap.size + 1, 4, none⟩ = some (.int .i64 m.prev) := celB hB (by simp [go_sem])
            have e5 : w1.cell? ⟨w.heap.size + 1, 5, none⟩ = some (.int .i64 m.pterm) := celB hB (by simp [go_sem])
            have e6 : w1.cell? ⟨w.heap.size + 1, 6, none⟩ = some (.slice r6 m.entry.length k6) := celB hB (by simp [go_sem])
            have e7 : w1.cell? ⟨w.heap.size + 1, 7, none⟩ = some (.int .i64 m.commit) := celB hB (by simp [go_sem])
            have e8 : w1.cell? ⟨w.heap.size + 1, 8, none⟩ = some (.int .i64 m.mat) := celB hB (by simp [go_sem])
            clear hB
            go_wp2_with fail
            refine (l10There_q s _ _ _ _ _ _ _ h2).mono ?_
            rintro r w2 ⟨rfl, hB⟩
            replace BB := stRa BB hB
            replace n0 := celB hB n0
            replace n1 := celB hB n1
            replace e0 := celB hB e0
            replace e1 := celB hB e1
            replace e2 := celB hB e2
            replace e3 := celB hB e3
            replace e4 := celB hB e4
            replace e5 := celB hB e5
            replace e6 := celB hB e6
            replace e7 := celB hB e7
            replace e8 := celB hB e8
            clear hB
            go_wp2_with (go_at_call 35; refine (l1In_any _ _ _ _).mono ?_; rintro e w' ⟨he, hw⟩; rw [hw]; clear hw w'; (first | rw [h4] at he); subst he)
            go_ret
            exact ⟨ret_bool HE.out.symm, BB⟩
          replace g4p : m.commit = 0 := Decidable.of_not_not g4p
          have dg4 : (m.commit == 0) = true := by first | (simp [g4p]; done) | (simp; omega)
          have g4 : Hid (m.commit = 0) := g4p
          clear g4p
          obtain ⟨b, h5⟩ : ∃ b, inB m.mat 0 30 = b := ⟨_, rfl⟩
          have HE : Hid (okMa s.prs.length m = b) := by show _ = _; simp [okMa, okRe, h1, h2, h3'.out, h4, HR.out, g1.out, g2.out, g3.out, g4.out, h5]
          go_enter Try.func46, Try.ntmps46
          go_wp2_with fail
          refine (l10There_q s _ _ _ _ _ _ _ h1).mono ?_
          rintro r w1 ⟨rfl, hB⟩
          have BB := stRa (HB _ _) hB
          have n0 : w1.cell? ⟨w.heap.size, 0, none⟩ = some (.slice a0 s.prs.length c0) := celB hB (by simp [go_sem])
          have n1 : w1.cell? ⟨w.heap.size, 1, none⟩ = some (.slice a1 s.mail.length c1) := celB hB (by simp [go_sem])
          have e0 : w1.cell? ⟨w.heap.size + 1, 0, none⟩ = some (.bool true) := celB hB (by simp [go_sem])
          have e1 : w1.cell? ⟨w.heap.size + 1, 1, none⟩ = some (.int .i64 m.fr) := celB hB (by simp [go_sem])
          have e2 : w1.cell? ⟨w.heap.size + 1, 2, none⟩ = some (.int .i64 m.to) := celB hB (by simp [go_sem])
          have e3 : w1.cell? ⟨w.heap.size + 1, 3, none⟩ = some (.int .i64 m.term) := celB hB (by simp [go_sem])
          have e4 : w1.cell? ⟨w.heap.size + 1, 4, none⟩ = some (.int .i64 m.prev) := celB hB (by simp [go_sem])
          have e5 : w1.cell? ⟨w.heap.size + 1, 5, none⟩ = some (.int .i64 m.pterm) := celB hB (by simp [go_sem])
          have e6 : w1.cell? ⟨w.heap.size + 1, 6, none⟩ = some (.slice r6 m.entry.length k6) := celB hB (by simp [go_sem])
          have e7 : w1.cell? ⟨w.heap.size + 1, 7, none⟩ = some (.int .i64 m.commit) := celB hB (by simp [go_sem])
          have e8 : w1.cell? ⟨w.heap.size + 1, 8, none⟩ = some (.int .i64 m.mat) := celB hB (by simp [go_sem])
          clear hB
          go_wp2_with fail
          refine (l10There_q s _ _ _ _ _ _ _ h2).mono ?_
          rintro r w2 ⟨rfl, hB⟩
          replace BB := stRa BB hB
          replace n0 := celB hB n0
          replace n1 := celB hB n1
          replace e0 := celB hB e0
          replace e1 := celB hB e1
          replace e2 := celB hB e2
          replace e3 := celB hB e3
          replace e4 := celB hB e4
          replace e5 := celB hB e5
          replace e6 := celB hB e6
          replace e7 := celB hB e7
          replace e8 := celB hB e8
          clear hB
          go_wp2_with (go_at_call 35; refine (l1In_any _ _ _ _).mono ?_; rintro e w' ⟨he, hw⟩; rw [hw]; clear hw w'; (first | rw [h4] at he | rw [h5] at he); subst he)
          go_ret
          exact ⟨ret_bool HE.out.symm, BB⟩
        | false =>
          have HR : Hid (m.reply = false) := hrp
          clear hrp
          cases h5 : inB m.prev 0 30 with
          | false =>
            have HE : Hid (okMa s.prs.length m = false) := by show _ = _; simp [okMa, okAp, h1, h2, h3'.out, h4, HR.out, h5]
            go_enter Try.func46, Try.ntmps46
            go_wp2_with fail
            refine (l10There_q s _ _ _ _ _ _ _ h1).mono ?_
            rintro r w1 ⟨rfl, hB⟩
            have BB := stRa (HB _ _) hB
            have n0 : w1.cell? ⟨w.heap.size, 0, none⟩ = some (.slice a0 s.prs.length c0) := celB hB (by simp [go_sem])
            have n1 : w1.cell? ⟨w.heap.size, 1, none⟩ = some (.slice a1 s.mail.length c1) := celB hB (by simp [go_sem])
            have e0 : w1.cell? ⟨w.heap.size + 1, 0, none⟩ = some (.bool false) := celB hB (by simp [go_sem])
            have e1 : w1.cell? ⟨w.heap.size + 1, 1, none⟩ = some (.int .i64 m.fr) := celB hB (by simp [go_sem])
            have e2 : w1.cell? ⟨w.heap.size + 1, 2, none⟩ = some (.int .i64 m.to) := celB hB (by simp [go_sem])
            have e3 : w1.cell? ⟨w.heap.size + 1, 3, none⟩ = some (.int .i64 m.term) := celB hB (by simp [go_sem])
            have e4 : w1.cell? ⟨w.heap.size + 1, 4, none⟩ = some (.int .i64 m.prev) := celB hB (by simp [go_sem])
            have e5 : w1.cell? ⟨w.heap.size + 1, 5, none⟩ = some (.int .i64 m.pterm) := celB hB (by simp [go_sem])
            have e6 : w1.cell? ⟨w.heap.size + 1, 6, none⟩ = some (.slice r6 m.entry.length k6) := celB hB (by simp [go_sem])
            have e7 : w1.cell? ⟨w.heap.size + 1, 7, none⟩ = some (.int .i64 m.commit) := celB hB (by simp [go_sem])
            have e8 : w1.cell? ⟨w.heap.size + 1, 8, none⟩ = some (.int .i64 m.mat) := celB hB (by simp [go_sem])
            clear hB
            go_wp2_with fail
            refine (l10There_q s _ _ _ _ _ _ _ h2).mono ?_
            rintro r w2 ⟨rfl, hB⟩
            replace BB := stRa BB hB
            replace n0 := celB hB n0
            replace n1 := celB hB n1
            replace e0 := celB hB e0
            replace e1 := celB hB e1
            replace e2 := celB hB e2
            replace e3 := celB hB e3
            replace e4 := celB hB e4
            replace e5 := celB hB e5
            replace e6 := celB hB e6
            replace e7 := celB hB e7
            replace e8 := celB hB e8
            clear hB
            go_wp2_with (go_at_call 35; refine (l1In_any _ _ _ _).mono ?_; rintro e w' ⟨he, hw⟩; rw [hw]; clear hw w'; (first | rw [h4] at he | rw [h5] at he); subst he)
            go_ret
            exact ⟨ret_bool HE.out.symm, BB⟩
          | true =>
            cases h6 : inB m.pterm (-1) m.term with
            | false =>
              have HE : Hid (okMa s.prs.length m = false) := by show _ = _; simp [okMa, okAp, h1, h2, h3'.out, h4, HR.out, h5, h6]
              go_enter Try.func46, Try.ntmps46
              go_wp2_with fail
              refine (l10There_q s _ _ _ _ _ _ _ h1).mono ?_
              rintro r w1 ⟨rfl, hB⟩
              have BB := stRa (HB _ _) hB
              have n0 : w1.cell? ⟨w.heap.size, 0, none⟩ = some (.slice a0 s.prs.length c0) := celB hB (by simp [go_sem])
              have n1 : w1.cell? ⟨w.heap.size, 1, none⟩ = some (.slice a1 s.mail.length c1) := celB hB (by simp [go_sem])
              have e0 : w1.cell? ⟨w.heap.size + 1, 0, none⟩ = some (.bool false) := celB hB (by simp [go_sem])
              have e1 : w1.cell? ⟨w.heap.size + 1, 1, none⟩ = some (.int .i64 m.fr) := celB hB (by simp [go_sem])
              have e2 : w1.cell? ⟨w.heap.size + 1, 2, none⟩ = some (.int .i64 m.to) := celB hB (by simp [go_sem])
              have e3 : w1.cell? ⟨w.heap.size + 1, 3, none⟩ = some (.int .i64 m.term) := celB hB (by simp [go_sem])
              have e4 : w1.cell? ⟨w.heap.size + 1, 4, none⟩ = some (.int .i64 m.prev) := celB hB (by simp [go_sem])
              have e5 : w1.cell? ⟨w.heap.size + 1, 5, none⟩ = some (.int .i64 m.pterm) := celB hB (by simp [go_sem])
              have e6 : w1.cell? ⟨w.heap.size + 1, 6, none⟩ = some (.slice r6 m.entry.length k6) := celB hB (by simp [go_sem])
              have e7 : w1.cell? ⟨w.heap.size + 1, 7, none⟩ = some (.int .i64 m.commit) := celB hB (by simp [go_sem])
              have e8 : w1.cell? ⟨w.heap.size + 1, 8, none⟩ = some (.int .i64 m.mat) := celB hB (by simp [go_sem])
              clear hB
              go_wp2_with fail
              refine (l10There_q s _ _ _ _ _ _ _ h2).mono ?_
              rintro r w2 ⟨rfl, hB⟩
              replace BB := stRa BB hB
              replace n0 := celB hB n0
              replace n1 := celB hB n1
              replace e0 := celB hB e0
              replace e1 := celB hB e1
              replace e2 := celB hB e2
              replace e3 := celB hB e3
              replace e4 := celB hB e4
              replace e5 := celB hB e5
              replace e6 := celB hB e6
              replace e7 := celB hB e7
              replace e8 := celB hB e8
              clear hB
              go_wp2_with (go_at_call 35; refine (l1In_any _ _ _ _).mono ?_; rintro e w' ⟨he, hw⟩; rw [hw]; clear hw w'; (first | rw [h4] at he | rw [h5] at he | rw [h6] at he); subst he)
              go_ret
              exact ⟨ret_bool HE.out.symm, BB⟩
            | true =>
              obtain ⟨x1, hx1⟩ : ∃ b, (m.prev == 0) = b := ⟨_, rfl⟩
              obtain ⟨x2, hx2⟩ : ∃ b, (m.pterm == -1) = b := ⟨_, rfl⟩
              have y1 : decide (m.prev = 0) = x1 := hx1
              have y2 : decide (m.pterm = -1) = x2 := hx2
              cases hxx : (x1 != x2) with
              | true =>
                have hxe : (x1 == x2) = false := by simpa using hxx
                have HE : Hid (okMa s.prs.length m = false) := by show _ = _; simp only [okMa, okAp, HR.out, y1, y2, hxe, Bool.false_and, Bool.and_false, if_false, Bool.false_eq_true]
                go_enter Try.func46, Try.ntmps46
                go_wp2_with fail
                refine (l10There_q s _ _ _ _ _ _ _ h1).mono ?_
                rintro r w1 ⟨rfl, hB⟩
                have BB := stRa (HB _ _) hB
                have n0 : w1.cell? ⟨w.heap.size, 0, none⟩ = some (.slice a0 s.prs.length c0) := celB hB (by simp [go_sem])
                have n1 : w1.cell? ⟨w.heap.size, 1, none⟩ = some (.slice a1 s.mail.length c1) := celB hB (by simp [go_sem])
                have e0 : w1.cell? ⟨w.heap.size + 1, 0, none⟩ = some (.bool false) := celB hB (by simp [go_sem])
                have e1 : w1.cell? ⟨w.heap.size + 1, 1, none⟩ = some (.int .i64 m.fr) := celB hB (by simp [go_sem])
                have e2 : w1.cell? ⟨w.heap.size + 1, 2, none⟩ = some (.int .i64 m.to) := celB hB (by simp [go_sem])
                have e3 : w1.cell? ⟨w.heap.size + 1, 3, none⟩ = some (.int .i64 m.term) := celB hB (by simp [go_sem])
                have e4 : w1.cell? ⟨w.heap.size + 1, 4, none⟩ = some (.int .i64 m.prev) := celB hB (by simp [go_sem])
                have e5 : w1.cell? ⟨w.heap.size + 1, 5, none⟩ = some (.int .i64 m.pterm) := celB hB (by simp [go_sem])
                have e6 : w1.cell? ⟨w.heap.size + 1, 6, none⟩ = some (.slice r6 m.entry.length k6) := celB hB (by simp [go_sem])
                have e7 : w1.cell? ⟨w.heap.size + 1, 7, none⟩ = some (.int .i64 m.commit) := celB hB (by simp [go_sem])
                have e8 : w1.cell? ⟨w.heap.size + 1, 8, none⟩ = some (.int .i64 m.mat) := celB hB (by simp [go_sem])
                clear hB
                go_wp2_with fail
                refine (l10There_q s _ _ _ _ _ _ _ h2).mono ?_
                rintro r w2 ⟨rfl, hB⟩
                replace BB := stRa BB hB
                replace n0 := celB hB n0
                replace n1 := celB hB n1
                replace e0 := celB hB e0
                replace e1 := celB hB e1
                replace e2 := celB hB e2
                replace e3 := celB hB e3
                replace e4 := celB hB e4
                replace e5 := celB hB e5
                replace e6 := celB hB e6
                replace e7 := celB hB e7
                replace e8 := celB hB e8
                clear hB
                go_wp2_with (go_at_call 35; refine (l1In_any _ _ _ _).mono ?_; rintro e w' ⟨he, hw⟩; rw [hw]; clear hw w'; (first | rw [h4] at he | rw [h5] at he | rw [h6] at he); subst he)
                go_ret
                exact ⟨ret_bool HE.out.symm, BB⟩
              | false =>
                have hxe : (x1 == x2) = true := by simpa using hxx
                cases h7 : inB m.commit 0 30 with
                | false =>
                  have HE : Hid (okMa s.prs.length m = false) := by show _ = _; simp [okMa, okAp, h1, h2, h3'.out, h4, HR.out, h5, h6, h7]
                  go_enter Try.func46, Try.ntmps46
                  go_wp2_with fail
                  refine (l10There_q s _ _ _ _ _ _ _ h1).mono ?_
                  rintro r w1 ⟨rfl, hB⟩
                  have BB := stRa (HB _ _) hB
                  have n0 : w1.cell? ⟨w.heap.size, 0, none⟩ = some (.slice a0 s.prs.length c0) := celB hB (by simp [go_sem])
                  have n1 : w1.cell? ⟨w.heap.size, 1, none⟩ = some (.slice a1 s.mail.length c1) := celB hB (by simp [go_sem])
                  have e0 : w1.cell? ⟨w.heap.size + 1, 0, none⟩ = some (.bool false) := celB hB (by simp [go_sem])
                  have e1 : w1.cell? ⟨w.heap.size + 1, 1, none⟩ = some (.int .i64 m.fr) := celB hB (by simp [go_sem])
                  have e2 : w1.cell? ⟨w.heap.size + 1, 2, none⟩ = some (.int .i64 m.to) := celB hB (by simp [go_sem])
                  have e3 : w1.cell? ⟨w.heap.size + 1, 3, none⟩ = some (.int .i64 m.term) := celB hB (by simp [go_sem])
                  have e4 : w1.cell? ⟨w.heap.size + 1, 4, none⟩ = some (.int .i64 m.prev) := celB hB (by simp [go_sem])
                  have e5 : w1.cell? ⟨w.heap.size + 1, 5, none⟩ = some (.int .i64 m.pterm) := celB hB (by simp [go_sem])
                  have e6 : w1.cell? ⟨w.heap.size + 1, 6, none⟩ = some (.slice r6 m.entry.length k6) := celB hB (by simp [go_sem])
                  have e7 : w1.cell? ⟨w.heap.size + 1, 7, none⟩ = some (.int .i64 m.commit) := celB hB (by simp [go_sem])
                  have e8 : w1.cell? ⟨w.heap.size + 1, 8, none⟩ = some (.int .i64 m.mat) := celB hB (by simp [go_sem])
                  clear hB
                  go_wp2_with fail
                  refine (l10There_q s _ _ _ _ _ _ _ h2).mono ?_
                  rintro r w2 ⟨rfl, hB⟩
                  replace BB := stRa BB hB
                  replace n0 := celB hB n0
                  replace n1 := celB hB n1
                  replace e0 := celB hB e0
                  replace e1 := celB hB e1
                  replace e2 := celB hB e2
                  replace e3 := celB hB e3
                  replace e4 := celB hB e4
                  replace e5 := celB hB e5
                  replace e6 := celB hB e6
                  replace e7 := celB hB e7
                  replace e8 := celB hB e8
                  clear hB
                  go_wp2_with (go_at_call 35; refine (l1In_any _ _ _ _).mono ?_; rintro e w' ⟨he, hw⟩; rw [hw]; clear hw w'; (first | rw [h4] at he | rw [h5] at he | rw [h6] at he | rw [h7] at he); subst he)
                  go_ret
                  exact ⟨ret_bool HE.out.symm, BB⟩
                | true =>
                  by_cases g1p : ¬ (m.mat = 0)
                  · have d5 : (m.mat != 0) = true := by simp [g1p]
                    have HE : Hid (okMa s.prs.length m = false) := by show _ = _; simp [okMa, okAp, h1, h2, h3'.out, h4, HR.out, h5, h6, h7, g1p]
                    clear g1p
                    go_enter Try.func46, Try.ntmps46
                    go_wp2_with fail
                    refine (l10There_q s _ _ _ _ _ _ _ h1).mono ?_
                    rintro r w1 ⟨rfl, hB⟩
                    have BB := stRa (HB _ _) hB
                    have n0 : w1.cell? ⟨w.heap.size, 0, none⟩ = some (.slice a0 s.prs.length c0) := celB hB (by simp [go_sem])
                    have n1 : w1.cell? ⟨w.heap.size, 1, none⟩ = some (.slice a1 s.mail.length c1) := celB hB (by simp [go_sem])
                    have e0 : w1.cell? ⟨w.heap.size + 1, 0, none⟩ = some (.bool false) := celB hB (by simp [go_sem])
                    have e1 : w1.cell? ⟨w.heap.size + 1, 1, none⟩ = some (.int .i64 m.fr) := celB hB (by simp [go_sem])
                    have e2 : w1.cell? ⟨w.heap.size + 1, 2, none⟩ = some (.int .i64 m.to) := celB hB (by simp [go_sem])
                    have e3 : w1.cell? ⟨w.heap.size + 1, 3, none⟩ = some (.int .i64 m.term) := celB hB (by simp [go_sem])
                    have e4 : w1.cell? ⟨w.heap.size + 1, 4, none⟩ = some (.int .i64 m.prev) := celB hB (by simp [go_sem])
                    have e5 : w1.cell? ⟨w.heap.size + 1, 5, none⟩ = some (.int .i64 m.pterm) := celB hB (by simp [go_sem])
                    have e6 : w1.cell? ⟨w.heap.size + 1, 6, none⟩ = some (.slice r6 m.entry.length k6) := celB hB (by simp [go_sem])
                    have e7 : w1.cell? ⟨w.heap.size + 1, 7, none⟩ = some (.int .i64 m.commit) := celB hB (by simp [go_sem])
                    have e8 : w1.cell? ⟨w.heap.size + 1, 8, none⟩ = some (.int .i64 m.mat) := celB hB (by simp [go_sem])
                    clear hB
                    go_wp2_with fail
                    refine (l10There_q s _ _ _ _ _ _ _ h2).mono ?_
                    rintro r w2 ⟨rfl, hB⟩
                    replace BB := stRa BB hB
                    replace n0 := celB hB n0
                    replace n1 := celB hB n1
                    replace e0 := celB hB e0
                    replace e1 := celB hB e1
                    replace e2 := celB hB e2
                    replace e3 := celB hB e3
                    replace e4 := celB hB e4
                    replace e5 := celB hB e5
                    replace e6 := celB hB e6
                    replace e7 := celB hB e7
                    replace e8 := celB hB e8
                    clear hB
                    go_wp2_with (go_at_call 35; refine (l1In_any _ _ _ _).mono ?_; rintro e w' ⟨he, hw⟩; rw [hw]; clear hw w'; (first | rw [h4] at he | rw [h5] at he | rw [h6] at he | rw [h7] at he); subst he)
                    go_ret
                    exact ⟨ret_bool HE.out.symm, BB⟩
                  replace g1p : m.mat = 0 := Decidable.of_not_not g1p
                  have d5 : (m.mat != 0) = false := by simp [g1p]
                  have g1 : Hid (m.mat = 0) := g1p
                  clear g1p
                  by_cases g2 : 1 < m.entry.length
                  · have d6 : (1 : Int) < ((m.entry.length : Nat) : Int) := by omega
                    have HE : Hid (okMa s.prs.length m = false) := by show _ = _; simp [okMa, okAp, h1, h2, h3'.out, h4, HR.out, h5, h6, h7, show ¬ m.entry.length ≤ 1 by omega]
                    go_enter Try.func46, Try.ntmps46
                    go_wp2_with fail
                    refine (l10There_q s _ _ _ _ _ _ _ h1).mono ?_
                    rintro r w1 ⟨rfl, hB⟩
                    have BB := stRa (HB _ _) hB
                    have n0 : w1.cell? ⟨w.heap.size, 0, none⟩ = some (.slice a0 s.prs.length c0) := celB hB (by simp [go_sem])
                    have n1 : w1.cell? ⟨w.heap.size, 1, none⟩ = some (.slice a1 s.mail.length c1) := celB hB (by simp [go_sem])
                    have e0 : w1.cell? ⟨w.heap.size + 1, 0, none⟩ = some (.bool false) := celB hB (by simp [go_sem])
                    have e1 : w1.cell? ⟨w.heap.size + 1, 1, none⟩ = some (.int .i64 m.fr) := celB hB (by simp [go_sem])
                    have e2 : w1.cell? ⟨w.heap.size + 1, 2, none⟩ = some (.int .i64 m.to) := celB hB (by simp [go_sem])
                    have e3 : w1.cell? ⟨w.heap.size + 1, 3, none⟩ = some (.int .i64 m.term) := celB hB (by simp [go_sem])
                    have e4 : w1.cell? ⟨w.heap.size + 1, 4, none⟩ = some (.int .i64 m.prev) := celB hB (by simp [go_sem])
                    have e5 : w1.cell? ⟨w.heap.size + 1, 5, none⟩ = some (.int .i64 m.pterm) := celB hB (by simp [go_sem])
                    have e6 : w1.cell? ⟨w.heap.size + 1, 6, none⟩ = some (.slice r6 m.entry.length k6) := celB hB (by simp [go_sem])
                    have e7 : w1.cell? ⟨w.heap.size + 1, 7, none⟩ = some (.int .i64 m.commit) := celB hB (by simp [go_sem])
                    have e8 : w1.cell? ⟨w.heap.size + 1, 8, none⟩ = some (.int .i64 m.mat) := celB hB (by simp [go_sem])
                    clear hB
                    go_wp2_with fail
                    refine (l10There_q s _ _ _ _ _ _ _ h2).mono ?_
                    rintro r w2 ⟨rfl, hB⟩
                    replace BB := stRa BB hB
                    replace n0 := celB hB n0
                    replace n1 := celB hB n1
                    replace e0 := celB hB e0
                    replace e1 := celB hB e1
                    replace e2 := celB hB e2
                    replace e3 := celB hB e3
                    replace e4 := celB hB e4
                    replace e5 := celB hB e5
                    replace e6 := celB hB e6
                    replace e7 := celB hB e7
                    replace e8 := celB hB e8
                    clear hB
                    go_wp2_with (go_at_call 35; refine (l1In_any _ _ _ _).mono ?_; rintro e w' ⟨he, hw⟩; rw [hw]; clear hw w'; (first | rw [h4] at he | rw [h5] at he | rw [h6] at he | rw [h7] at he); subst he)
                    go_ret
                    exact ⟨ret_bool HE.out.symm, BB⟩
                  have d6 : ¬ (1 : Int) < ((m.entry.length : Nat) : Int) := by omega
                  have HA : Hid (okMa s.prs.length m = (logB m.entry m.term && (decide (m.entry.length = 0) || decide (m.pterm ≤ (enA m.entry 0).term)))) := by show _ = _; simp only [okMa, okAp, h1, h2, decide_eq_false h3'.out, h4, HR.out, h5, h6, y1, y2, hxe, h7, decide_eq_true g1.out, decide_eq_true (show m.entry.length ≤ 1 by omega), Bool.true_and, Bool.not_false, if_false, Bool.false_eq_true]
                  cases h8 : logB m.entry m.term with
                  | false =>
                    have HE : Hid (okMa s.prs.length m = false) := by show _ = _; rw [HA.out, h8]; rfl
                    go_enter Try.func46, Try.ntmps46
                    go_wp2_with fail
                    refine (l10There_q s _ _ _ _ _ _ _ h1).mono ?_
                    rintro r w1 ⟨rfl, hB⟩
                    have BB := stRa (HB _ _) hB
                    have n0 : w1.cell? ⟨w.heap.size, 0, none⟩ = some (.slice a0 s.prs.length c0) := celB hB (by simp [go_sem])
                    have n1 : w1.cell? ⟨w.heap.size, 1, none⟩ = some (.slice a1 s.mail.length c1) := celB hB (by simp [go_sem])
                    have e0 : w1.cell? ⟨w.heap.size + 1, 0, none⟩ = some (.bool false) := celB hB (by simp [go_sem])
                    have e1 : w1.cell? ⟨w.heap.size + 1, 1, none⟩ = some (.int .i64 m.fr) := celB hB (by simp [go_sem])
                    have e2 : w1.cell? ⟨w.heap.size + 1, 2, none⟩ = some (.int .i64 m.to) := celB hB (by simp [go_sem])
                    have e3 : w1.cell? ⟨w.heap.size + 1, 3, none⟩ = some (.int .i64 m.term) := celB hB (by simp [go_sem])
                    have e4 : w1.cell? ⟨w.heap.size + 1, 4, none⟩ = some (.int .i64 m.prev) := celB hB (by simp [go_sem])
                    have e5 : w1.cell? ⟨w.heap.size + 1, 5, none⟩ = some (.int .i64 m.pterm) := celB hB (by simp [go_sem])
                    have e6 : w1.cell? ⟨w.heap.size + 1, 6, none⟩ = some (.slice r6 m.entry.length k6) := celB hB (by simp [go_sem])
                    have e7 : w1.cell? ⟨w.heap.size + 1, 7, none⟩ = some (.int .i64 m.commit) := celB hB (by simp [go_sem])
                    have e8 : w1.cell? ⟨w.heap.size + 1, 8, none⟩ = some (.int .i64 m.mat) := celB hB (by simp [go_sem])
                    clear hB
                    go_wp2_with fail
                    refine (l10There_q s _ _ _ _ _ _ _ h2).mono ?_
                    rintro r w2 ⟨rfl, hB⟩
                    replace BB := stRa BB hB
                    replace n0 := celB hB n0
                    replace n1 := celB hB n1
                    replace e0 := celB hB e0
                    replace e1 := celB hB e1
                    replace e2 := celB hB e2
                    replace e3 := celB hB e3
                    replace e4 := celB hB e4
                    replace e5 := celB hB e5
                    replace e6 := celB hB e6
                    replace e7 := celB hB e7
                    replace e8 := celB hB e8
                    clear hB
                    go_wp2_with (go_at_call 35; refine (l1In_any _ _ _ _).mono ?_; rintro e w' ⟨he, hw⟩; rw [hw]; clear hw w'; (first | rw [h4] at he | rw [h5] at he | rw [h6] at he | rw [h7] at he); subst he)
                    have kk : w2.drew.cell? ⟨w.heap.size + 1, 0, none⟩ = some (.bool false) ∧ w2.drew.cell? ⟨w.heap.size + 1, 1, none⟩ = some (.int .i64 m.fr) ∧ w2.drew.cell? ⟨w.heap.size + 1, 2, none⟩ = some (.int .i64 m.to) ∧ w2.drew.cell? ⟨w.heap.size + 1, 3, none⟩ = some (.int .i64 m.term) ∧ w2.drew.cell? ⟨w.heap.size + 1, 4, none⟩ = some (.int .i64 m.prev) ∧ w2.drew.cell? ⟨w.heap.size + 1, 5, none⟩ = some (.int .i64 m.pterm) ∧ w2.drew.cell? ⟨w.heap.size + 1, 6, none⟩ = some (.slice r6 m.entry.length k6) ∧ w2.drew.cell? ⟨w.heap.size + 1, 7, none⟩ = some (.int .i64 m.commit) ∧ w2.drew.cell? ⟨w.heap.size + 1, 8, none⟩ = some (.int .i64 m.mat) := ⟨celB (Below.refl _ _).drew e0, celB (Below.refl _ _).drew e1, celB (Below.refl _ _).drew e2, celB (Below.refl _ _).drew e3, celB (Below.refl _ _).drew e4, celB (Below.refl _ _).drew e5, celB (Below.refl _ _).drew e6, celB (Below.refl _ _).drew e7, celB (Below.refl _ _).drew e8⟩
                    have kq := kk
                    obtain ⟨f0, f1, f2, f3, f4, f5, f6, f7, f8⟩ := kq
                    clear e0 e1 e2 e3 e4 e5 e6 e7 e8
                    refine wp_region_noPanic ?_
                    refine wp_region_held_drew (S := fun w' => w'.cell? ⟨w.heap.size + 1, 0, none⟩ = some (.bool false) ∧ w'.cell? ⟨w.heap.size + 1, 1, none⟩ = some (.int .i64 m.fr) ∧ w'.cell? ⟨w.heap.size + 1, 2, none⟩ = some (.int .i64 m.to) ∧ w'.cell? ⟨w.heap.size + 1, 3, none⟩ = some (.int .i64 m.term) ∧ w'.cell? ⟨w.heap.size + 1, 4, none⟩ = some (.int .i64 m.prev) ∧ w'.cell? ⟨w.heap.size + 1, 5, none⟩ = some (.int .i64 m.pterm) ∧ w'.cell? ⟨w.heap.size + 1, 6, none⟩ = some (.slice r6 m.entry.length k6) ∧ w'.cell? ⟨w.heap.size + 1, 7, none⟩ = some (.int .i64 m.commit) ∧ w'.cell? ⟨w.heap.size + 1, 8, none⟩ = some (.int .i64 m.mat)) (by kernel_rfl) kk (fun hH => ?_)
                    refine wpAnyH_take (i := 0) (oi := ⟨_, _, _, _, _, _⟩) (v := ?vr0) rfl (by kernel_rfl) (by kernel_rfl) (by kernel_rfl) (fun _ _ _ h => h) (Or.inl ⟨by rfl, ?yr0⟩) (by assumption) ?rr0
                    case yr0 => intro w hSw; (try dsimp only at hSw); go_simp; try with_reducible rfl
                    try simp only [Act.put, List.setIfInBounds_toArray, List.set_cons_zero, List.set_cons_succ]
                    refine wpAnyH_take (i := 1) (oi := ⟨_, _, _, _, _, _⟩) (v := ?vr1) rfl (by kernel_rfl) (by kernel_rfl) (by kernel_rfl) (fun _ _ _ h => h) (Or.inl ⟨by rfl, ?yr1⟩) (by assumption) ?rr1
                    case yr1 => intro w hSw; (try dsimp only at hSw); go_simp; try with_reducible rfl
                    try simp only [Act.put, List.setIfInBounds_toArray, List.set_cons_zero, List.set_cons_succ]
                    refine wpAnyH_take (i := 2) (oi := ⟨_, _, _, _, _, _⟩) (v := ?vr2) rfl (by kernel_rfl) (by kernel_rfl) (by kernel_rfl) (fun _ _ _ h => h) (Or.inl ⟨by rfl, ?yr2⟩) (by assumption) ?rr2
                    case yr2 => intro w hSw; (try dsimp only at hSw); go_simp; try with_reducible rfl
                    try simp only [Act.put, List.setIfInBounds_toArray, List.set_cons_zero, List.set_cons_succ]
                    refine wpAnyH_take (i := 3) (oi := ⟨_, _, _, _, _, _⟩) (v := ?vr3) rfl (by kernel_rfl) (by kernel_rfl) (by kernel_rfl) (fun _ _ _ h => h) (Or.inl ⟨by rfl, ?yr3⟩) (by assumption) ?rr3
                    case yr3 => intro w hSw; (try dsimp only at hSw); go_simp; try with_reducible rfl
                    try simp only [Act.put, List.setIfInBounds_toArray, List.set_cons_zero, List.set_cons_succ]
                    refine wpAnyH_ready (rs := [4]) (by kernel_rfl) (by simp) ?_
                    refine AllReadyH.cons (o := ⟨_, _, _, _, _, _⟩) rfl (fun KK hK => ?_) AllReadyH.nil
                    go_simp
                    refine (l10Log_c _ _ _ _ _ _ ((q6.below BB).below (Below.refl _ _).drew) m6 h8).mono ?_
                    rintro r w3 ⟨rfl, hB3⟩
                    have BB3 : Below w.heap.size w w3 := stRa BB ((Below.refl _ _).drew.trans (hB3.mono (by simp)))
                    have kk3 : w3.cell? ⟨w.heap.size + 1, 0, none⟩ = some (.bool false) ∧ w3.cell? ⟨w.heap.size + 1, 1, none⟩ = some (.int .i64 m.fr) ∧ w3.cell? ⟨w.heap.size + 1, 2, none⟩ = some (.int .i64 m.to) ∧ w3.cell? ⟨w.heap.size + 1, 3, none⟩ = some (.int .i64 m.term) ∧ w3.cell? ⟨w.heap.size + 1, 4, none⟩ = some (.int .i64 m.prev) ∧ w3.cell? ⟨w.heap.size + 1, 5, none⟩ = some (.int .i64 m.pterm) ∧ w3.cell? ⟨w.heap.size + 1, 6, none⟩ = some (.slice r6 m.entry.length k6) ∧ w3.cell? ⟨w.heap.size + 1, 7, none⟩ = some (.int .i64 m.commit) ∧ w3.cell? ⟨w.heap.size + 1, 8, none⟩ = some (.int .i64 m.mat) := ⟨celB hB3 f0, celB hB3 f1, celB hB3 f2, celB hB3 f3, celB hB3 f4, celB hB3 f5, celB hB3 f6, celB hB3 f7, celB hB3 f8⟩
                    clear hB3
                    go_wp2_with fail
                    refine hK.out _ _ kk3 (fun hH4 => ?_)
                    clear hK KK hH
                    try simp only [Act.put, List.setIfInBounds_toArray, List.set_cons_zero, List.set_cons_succ]
                    refine wpAnyH_take (i := 5) (oi := ⟨_, _, _, _, _, _⟩) (v := ?vr5) rfl (by kernel_rfl) (by kernel_rfl) (by kernel_rfl) (fun _ _ _ h => h) (Or.inl ⟨by rfl, ?yr5⟩) (by assumption) ?rr5
                    case yr5 => intro w hSw; (try dsimp only at hSw); go_simp; try with_reducible rfl
                    try simp only [Act.put, List.setIfInBounds_toArray, List.set_cons_zero, List.set_cons_succ]
                    refine wpAnyH_take (i := 6) (oi := ⟨_, _, _, _, _, _⟩) (v := undef) rfl (by kernel_rfl) (by kernel_rfl) (by kernel_rfl) (fun _ _ _ h => h) (Or.inr ⟨by rfl, rfl⟩) (by assumption) ?_
                    try simp only [Act.put, List.setIfInBounds_toArray, List.set_cons_zero, List.set_cons_succ]
                    refine wpAnyH_take (i := 7) (oi := ⟨_, _, _, _, _, _⟩) (v := undef) rfl (by kernel_rfl) (by kernel_rfl) (by kernel_rfl) (fun _ _ _ h => h) (Or.inr ⟨by rfl, rfl⟩) (by assumption) ?_
                    try simp only [Act.put, List.setIfInBounds_toArray, List.set_cons_zero, List.set_cons_succ]
                    refine wpAnyH_take (i := 8) (oi := ⟨_, _, _, _, _, _⟩) (v := undef) rfl (by kernel_rfl) (by kernel_rfl) (by kernel_rfl) (fun _ _ _ h => h) (Or.inr ⟨by rfl, rfl⟩) (by assumption) ?_
                    try simp only [Act.put, List.setIfInBounds_toArray, List.set_cons_zero, List.set_cons_succ]
                    refine wpAnyH_take (i := 9) (oi := ⟨_, _, _, _, _, _⟩) (v := undef) rfl (by kernel_rfl) (by kernel_rfl) (by kernel_rfl) (fun _ _ _ h => h) (Or.inr ⟨by rfl, rfl⟩) (by assumption) ?_
                    try simp only [Act.put, List.setIfInBounds_toArray, List.set_cons_zero, List.set_cons_succ]
                    refine wpAnyH_take (i := 10) (oi := ⟨_, _, _, _, _, _⟩) (v := undef) rfl (by kernel_rfl) (by kernel_rfl) (by kernel_rfl) (fun _ _ _ h => h) (Or.inr ⟨by rfl, rfl⟩) (by assumption) ?_
                    try simp only [Act.put, List.setIfInBounds_toArray, List.set_cons_zero, List.set_cons_succ]
                    refine wpAnyH_take (i := 11) (oi := ⟨_, _, _, _, _, _⟩) (v := undef) rfl (by kernel_rfl) (by kernel_rfl) (by kernel_rfl) (fun _ _ _ h => h) (Or.inr ⟨by rfl, rfl⟩) (by assumption) ?_
                    try simp only [Act.put, List.setIfInBounds_toArray, List.set_cons_zero, List.set_cons_succ]
                    refine wpAnyH_take (i := 12) (oi := ⟨_, _, _, _, _, _⟩) (v := undef) rfl (by kernel_rfl) (by kernel_rfl) (by kernel_rfl) (fun _ _ _ h => h) (Or.inr ⟨by rfl, rfl⟩) (by assumption) ?_
                    try simp only [Act.put, List.setIfInBounds_toArray, List.set_cons_zero, List.set_cons_succ]
                    refine wpAnyH_take (i := 13) (oi := ⟨_, _, _, _, _, _⟩) (v := undef) rfl (by kernel_rfl) (by kernel_rfl) (by kernel_rfl) (fun _ _ _ h => h) (Or.inr ⟨by rfl, rfl⟩) (by assumption) ?_
                    try simp only [Act.put, List.setIfInBounds_toArray, List.set_cons_zero, List.set_cons_succ]
                    refine wpAnyH_take (i := 14) (oi := ⟨_, _, _, _, _, _⟩) (v := undef) rfl (by kernel_rfl) (by kernel_rfl) (by kernel_rfl) (fun _ _ _ h => h) (Or.inr ⟨by rfl, rfl⟩) (by assumption) ?_
                    try simp only [Act.put, List.setIfInBounds_toArray, List.set_cons_zero, List.set_cons_succ]
                    refine wpAnyH_take (i := 15) (oi := ⟨_, _, _, _, _, _⟩) (v := undef) rfl (by kernel_rfl) (by kernel_rfl) (by kernel_rfl) (fun _ _ _ h => h) (Or.inr ⟨by rfl, rfl⟩) (by assumption) ?_
                    try simp only [Act.put, List.setIfInBounds_toArray, List.set_cons_zero, List.set_cons_succ]
                    refine wpAnyH_take (i := 16) (oi := ⟨_, _, _, _, _, _⟩) (v := undef) rfl (by kernel_rfl) (by kernel_rfl) (by kernel_rfl) (fun _ _ _ h => h) (Or.inr ⟨by rfl, rfl⟩) (by assumption) ?_
                    try simp only [Act.put, List.setIfInBounds_toArray, List.set_cons_zero, List.set_cons_succ]
                    refine wpAnyH_take (i := 17) (oi := ⟨_, _, _, _, _, _⟩) (v := undef) rfl (by kernel_rfl) (by kernel_rfl) (by kernel_rfl) (fun _ _ _ h => h) (Or.inr ⟨by rfl, rfl⟩) (by assumption) ?_
                    try simp only [Act.put, List.setIfInBounds_toArray, List.set_cons_zero, List.set_cons_succ]
                    refine wpAnyH_take (i := 18) (oi := ⟨_, _, _, _, _, _⟩) (v := undef) rfl (by kernel_rfl) (by kernel_rfl) (by kernel_rfl) (fun _ _ _ h => h) (Or.inr ⟨by rfl, rfl⟩) (by assumption) ?_
                    try simp only [Act.put, List.setIfInBounds_toArray, List.set_cons_zero, List.set_cons_succ]
                    refine wpAnyH_take (i := 19) (oi := ⟨_, _, _, _, _, _⟩) (v := undef) rfl (by kernel_rfl) (by kernel_rfl) (by kernel_rfl) (fun _ _ _ h => h) (Or.inr ⟨by rfl, rfl⟩) (by assumption) ?_
                    try simp only [Act.put, List.setIfInBounds_toArray, List.set_cons_zero, List.set_cons_succ]
                    refine wpAnyH_take (i := 20) (oi := ⟨_, _, _, _, _, _⟩) (v := ?vr20) rfl (by kernel_rfl) (by kernel_rfl) (by kernel_rfl) (fun _ _ _ h => h) (Or.inl ⟨by rfl, ?yr20⟩) (by assumption) ?rr20
                    case yr20 => intro w hSw; (try dsimp only at hSw); go_simp; try with_reducible rfl
                    try simp only [Act.put, List.setIfInBounds_toArray, List.set_cons_zero, List.set_cons_succ]
                    refine wpAnyH_take (i := 21) (oi := ⟨_, _, _, _, _, _⟩) (v := ?vr21) rfl (by kernel_rfl) (by kernel_rfl) (by kernel_rfl) (fun _ _ _ h => h) (Or.inl ⟨by rfl, ?yr21⟩) (by assumption) ?rr21
                    case yr21 => intro w hSw; (try dsimp only at hSw); go_simp; try with_reducible rfl
                    try simp only [Act.put, List.setIfInBounds_toArray, List.set_cons_zero, List.set_cons_succ]
                    refine wpAnyH_done (by kernel_rfl) (NoPanic.normal ?_) _
                    go_wp2
                    go_ret
                    exact ⟨ret_bool HE.out.symm, BB3⟩
                  | true =>
                    by_cases g3 : m.entry.length = 0
                    · have d7 : (((m.entry.length : Nat) : Int) == 0) = true := by rw [g3]; rfl
                      have HE : Hid (okMa s.prs.length m = true) := by show _ = _; rw [HA.out, h8, decide_eq_true g3]; rfl
                      clear g3
                      go_enter Try.func46, Try.ntmps46
                      go_wp2_with fail
                      refine (l10There_q s _ _ _ _ _ _ _ h1).mono ?_
                      rintro r w1 ⟨rfl, hB⟩
                      have BB := stRa (HB _ _) hB
                      have n0 : w1.cell? ⟨w.heap.size, 0, none⟩ = some (.slice a0 s.prs.length c0) := celB hB (by simp [go_sem])
                      have n1 : w1.cell? ⟨w.heap.size, 1, none⟩ = some (.slice a1 s.mail.length c1) := celB hB (by simp [go_sem])
                      have e0 : w1.cell? ⟨w.heap.size + 1, 0, none⟩ = some (.bool false) := celB hB (by simp [go_sem])
                      have e1 : w1.cell? ⟨w.heap.size + 1, 1, none⟩ = some (.int .i64 m.fr) := celB hB (by simp [go_sem])
                      have e2 : w1.cell? ⟨w.heap.size + 1, 2, none⟩ = some (.int .i64 m.to) := celB hB (by simp [go_sem])
                      have e3 : w1.cell? ⟨w.heap.size + 1, 3, none⟩ = some (.int .i64 m.term) := celB hB (by simp [go_sem])
                      have e4 : w1.cell? ⟨w.heap.size + 1, 4, none⟩ = some (.int .i64 m.prev) := celB hB (by simp [go_sem])
                      have e5 : w1.cell? ⟨w.heap.size + 1, 5, none⟩ = some (.int .i64 m.pterm) := celB hB (by simp [go_sem])
                      have e6 : w1.cell? ⟨w.heap.size + 1, 6, none⟩ = some (.slice r6 m.entry.length k6) := celB hB (by simp [go_sem])
                      have e7 : w1.cell? ⟨w.heap.size + 1, 7, none⟩ = some (.int .i64 m.commit) := celB hB (by simp [go_sem])
                      have e8 : w1.cell? ⟨w.heap.size + 1, 8, none⟩ = some (.int .i64 m.mat) := celB hB (by simp [go_sem])
                      clear hB
                      go_wp2_with fail
                      refine (l10There_q s _ _ _ _ _ _ _ h2).mono ?_
                      rintro r w2 ⟨rfl, hB⟩
                      replace BB := stRa BB hB
                      replace n0 := celB hB n0
                      replace n1 := celB hB n1
                      replace e0 := celB hB e0
                      replace e1 := celB hB e1
                      replace e2 := celB hB e2
                      replace e3 := celB hB e3
                      replace e4 := celB hB e4
                      replace e5 := celB hB e5
                      replace e6 := celB hB e6
                      replace e7 := celB hB e7
                      replace e8 := celB hB e8
                      clear hB
                      go_wp2_with (go_at_call 35; refine (l1In_any _ _ _ _).mono ?_; rintro e w' ⟨he, hw⟩; rw [hw]; clear hw w'; (first | rw [h4] at he | rw [h5] at he | rw [h6] at he | rw [h7] at he); subst he)
                      have kk : w2.drew.cell? ⟨w.heap.size + 1, 0, none⟩ = some (.bool false) ∧ w2.drew.cell? ⟨w.heap.size + 1, 1, none⟩ = some (.int .i64 m.fr) ∧ w2.drew.cell? ⟨w.heap.size + 1, 2, none⟩ = some (.int .i64 m.to) ∧ w2.drew.cell? ⟨w.heap.size + 1, 3, none⟩ = some (.int .i64 m.term) ∧ w2.drew.cell? ⟨w.heap.size + 1, 4, none⟩ = some (.int .i64 m.prev) ∧ w2.drew.cell? ⟨w.heap.size + 1, 5, none⟩ = some (.int .i64 m.pterm) ∧ w2.drew.cell? ⟨w.heap.size + 1, 6, none⟩ = some (.slice r6 m.entry.length k6) ∧ w2.drew.cell? ⟨w.heap.size + 1, 7, none⟩ = some (.int .i64 m.commit) ∧ w2.drew.cell? ⟨w.heap.size + 1, 8, none⟩ = some (.int .i64 m.mat) := ⟨celB (Below.refl _ _).drew e0, celB (Below.refl _ _).drew e1, celB (Below.refl _ _).drew e2, celB (Below.refl _ _).drew e3, celB (Below.refl _ _).drew e4, celB (Below.refl _ _).drew e5, celB (Below.refl _ _).drew e6, celB (Below.refl _ _).drew e7, celB (Below.refl _ _).drew e8⟩
                      have kq := kk
                      obtain ⟨f0, f1, f2, f3, f4, f5, f6, f7, f8⟩ := kq
                      clear e0 e1 e2 e3 e4 e5 e6 e7 e8
                      refine wp_region_noPanic ?_
                      refine wp_region_held_drew (S := fun w' => w'.cell? ⟨w.heap.size + 1, 0, none⟩ = some (.bool false) ∧ w'.cell? ⟨w.heap.size + 1, 1, none⟩ = some (.int .i64 m.fr) ∧ w'.cell? ⟨w.heap.size + 1, 2, none⟩ = some (.int .i64 m.to) ∧ w'.cell? ⟨w.heap.size + 1, 3, none⟩ = some (.int .i64 m.term) ∧ w'.cell? ⟨w.heap.size + 1, 4, none⟩ = some (.int .i64 m.prev) ∧ w'.cell? ⟨w.heap.size + 1, 5, none⟩ = some (.int .i64 m.pterm) ∧ w'.cell? ⟨w.heap.size + 1, 6, none⟩ = some (.slice r6 m.entry.length k6) ∧ w'.cell? ⟨w.heap.size + 1, 7, none⟩ = some (.int .i64 m.commit) ∧ w'.cell? ⟨w.heap.size + 1, 8, none⟩ = some (.int .i64 m.mat)) (by kernel_rfl) kk (fun hH => ?_)
                      refine wpAnyH_take (i := 0) (oi := ⟨_, _, _, _, _, _⟩) (v := ?vs0) rfl (by kernel_rfl) (by kernel_rfl) (by kernel_rfl) (fun _ _ _ h => h) (Or.inl ⟨by rfl, ?ys0⟩) (by assumption) ?rs0
                      case ys0 => intro w hSw; (try dsimp only at hSw); go_simp; try with_reducible rfl
                      try simp only [Act.put, List.setIfInBounds_toArray, List.set_cons_zero, List.set_cons_succ]
                      refine wpAnyH_take (i := 1) (oi := ⟨_, _, _, _, _, _⟩) (v := ?vs1) rfl (by kernel_rfl) (by kernel_rfl) (by kernel_rfl) (fun _ _ _ h => h) (Or.inl ⟨by rfl, ?ys1⟩) (by assumption) ?rs1
                      case ys1 => intro w hSw; (try dsimp only at hSw); go_simp; try with_reducible rfl
                      try simp only [Act.put, List.setIfInBounds_toArray, List.set_cons_zero, List.set_cons_succ]
                      refine wpAnyH_take (i := 2) (oi := ⟨_, _, _, _, _, _⟩) (v := ?vs2) rfl (by kernel_rfl) (by kernel_rfl) (by kernel_rfl) (fun _ _ _ h => h) (Or.inl ⟨by rfl, ?ys2⟩) (by assumption) ?rs2
                      case ys2 => intro w hSw; (try dsimp only at hSw); go_simp; try with_reducible rfl
                      try simp only [Act.put, List.setIfInBounds_toArray, List.set_cons_zero, List.set_cons_succ]
                      refine wpAnyH_take (i := 3) (oi := ⟨_, _, _, _, _, _⟩) (v := ?vs3) rfl (by kernel_rfl) (by kernel_rfl) (by kernel_rfl) (fun _ _ _ h => h) (Or.inl ⟨by rfl, ?ys3⟩) (by assumption) ?rs3
                      case ys3 => intro w hSw; (try dsimp only at hSw); go_simp; try with_reducible rfl
                      try simp only [Act.put, List.setIfInBounds_toArray, List.set_cons_zero, List.set_cons_succ]
                      refine wpAnyH_ready (rs := [4]) (by kernel_rfl) (by simp) ?_
                      refine AllReadyH.cons (o := ⟨_, _, _, _, _, _⟩) rfl (fun KK hK => ?_) AllReadyH.nil
                      go_simp
                      refine (l10Log_c _ _ _ _ _ _ ((q6.below BB).below (Below.refl _ _).drew) m6 h8).mono ?_
                      rintro r w3 ⟨rfl, hB3⟩
                      have BB3 : Below w.heap.size w w3 := stRa BB ((Below.refl _ _).drew.trans (hB3.mono (by simp)))
                      have kk3 : w3.cell? ⟨w.heap.size + 1, 0, none⟩ = some (.bool false) ∧ w3.cell? ⟨w.heap.size + 1, 1, none⟩ = some (.int .i64 m.fr) ∧ w3.cell? ⟨w.heap.size + 1, 2, none⟩ = some (.int .i64 m.to) ∧ w3.cell? ⟨w.heap.size + 1, 3, none⟩ = some (.int .i64 m.term) ∧ w3.cell? ⟨w.heap.size + 1, 4, none⟩ = some (.int .i64 m.prev) ∧ w3.cell? ⟨w.heap.size + 1, 5, none⟩ = some (.int .i64 m.pterm) ∧ w3.cell? ⟨w.heap.size + 1, 6, none⟩ = some (.slice r6 m.entry.length k6) ∧ w3.cell? ⟨w.heap.size + 1, 7, none⟩ = some (.int .i64 m.commit) ∧ w3.cell? ⟨w.heap.size + 1, 8, none⟩ = some (.int .i64 m.mat) := ⟨celB hB3 f0, celB hB3 f1, celB hB3 f2, celB hB3 f3, celB hB3 f4, celB hB3 f5, celB hB3 f6, celB hB3 f7, celB hB3 f8⟩
                      clear hB3
                      go_wp2_with fail
                      refine hK.out _ _ kk3 (fun hH4 => ?_)
                      clear hK KK hH
                      try simp only [Act.put, List.setIfInBounds_toArray, List.set_cons_zero, List.set_cons_succ]
                      refine wpAnyH_take (i := 5) (oi := ⟨_, _, _, _, _, _⟩) (v := ?vs5) rfl (by kernel_rfl) (by kernel_rfl) (by kernel_rfl) (fun _ _ _ h => h) (Or.inl ⟨by rfl, ?ys5⟩) (by assumption) ?rs5
                      case ys5 => intro w hSw; (try dsimp only at hSw); go_simp; try with_reducible rfl
                      try simp only [Act.put, List.setIfInBounds_toArray, List.set_cons_zero, List.set_cons_succ]
                      refine wpAnyH_take (i := 6) (oi := ⟨_, _, _, _, _, _⟩) (v := ?vs6) rfl (by kernel_rfl) (by kernel_rfl) (by kernel_rfl) (fun _ _ _ h => h) (Or.inl ⟨by rfl, ?ys6⟩) (by assumption) ?rs6
                      case ys6 => intro w hSw; (try dsimp only at hSw); go_simp; try with_reducible rfl
                      try simp only [Act.put, List.setIfInBounds_toArray, List.set_cons_zero, List.set_cons_succ]
                      refine wpAnyH_take (i := 7) (oi := ⟨_, _, _, _, _, _⟩) (v := ?vs7) rfl (by kernel_rfl) (by kernel_rfl) (by kernel_rfl) (fun _ _ _ h => h) (Or.inl ⟨by rfl, ?ys7⟩) (by assumption) ?rs7
                      case ys7 => intro w hSw; (try dsimp only at hSw); go_simp; try with_reducible rfl
                      try simp only [Act.put, List.setIfInBounds_toArray, List.set_cons_zero, List.set_cons_succ]
                      refine wpAnyH_take (i := 8) (oi := ⟨_, _, _, _, _, _⟩) (v := ?vs8) rfl (by kernel_rfl) (by kernel_rfl) (by kernel_rfl) (fun _ _ _ h => h) (Or.inl ⟨by rfl, ?ys8⟩) (by assumption) ?rs8
                      case ys8 => intro w hSw; (try dsimp only at hSw); go_simp; try with_reducible rfl
                      try simp only [Act.put, List.setIfInBounds_toArray, List.set_cons_zero, List.set_cons_succ]
                      refine wpAnyH_take (i := 9) (oi := ⟨_, _, _, _, _, _⟩) (v := ?vs9) rfl (by kernel_rfl) (by kernel_rfl) (by kernel_rfl) (fun _ _ _ h => h) (Or.inl ⟨by rfl, ?ys9⟩) (by assumption) ?rs9
                      case ys9 => intro w hSw; (try dsimp only at hSw); go_simp; try with_reducible rfl
                      try simp only [Act.put, List.setIfInBounds_toArray, List.set_cons_zero, List.set_cons_succ]
                      refine wpAnyH_take (i := 10) (oi := ⟨_, _, _, _, _, _⟩) (v := ?vs10) rfl (by kernel_rfl) (by kernel_rfl) (by kernel_rfl) (fun _ _ _ h => h) (Or.inl ⟨by rfl, ?ys10⟩) (by assumption) ?rs10
                      case ys10 => intro w hSw; (try dsimp only at hSw); go_simp; try with_reducible rfl
                      try simp only [Act.put, List.setIfInBounds_toArray, List.set_cons_zero, List.set_cons_succ]
                      refine wpAnyH_take (i := 11) (oi := ⟨_, _, _, _, _, _⟩) (v := undef) rfl (by kernel_rfl) (by kernel_rfl) (by kernel_rfl) (fun _ _ _ h => h) (Or.inr ⟨by rfl, rfl⟩) (by assumption) ?_
                      try simp only [Act.put, List.setIfInBounds_toArray, List.set_cons_zero, List.set_cons_succ]
                      refine wpAnyH_take (i := 12) (oi := ⟨_, _, _, _, _, _⟩) (v := undef) rfl (by kernel_rfl) (by kernel_rfl) (by kernel_rfl) (fun _ _ _ h => h) (Or.inr ⟨by rfl, rfl⟩) (by assumption) ?_
                      try simp only [Act.put, List.setIfInBounds_toArray, List.set_cons_zero, List.set_cons_succ]
                      refine wpAnyH_take (i := 13) (oi := ⟨_, _, _, _, _, _⟩) (v := undef) rfl (by kernel_rfl) (by kernel_rfl) (by kernel_rfl) (fun _ _ _ h => h) (Or.inr ⟨by rfl, rfl⟩) (by assumption) ?_
                      try simp only [Act.put, List.setIfInBounds_toArray, List.set_cons_zero, List.set_cons_succ]
                      refine wpAnyH_take (i := 14) (oi := ⟨_, _, _, _, _, _⟩) (v := undef) rfl (by kernel_rfl) (by kernel_rfl) (by kernel_rfl) (fun _ _ _ h => h) (Or.inr ⟨by rfl, rfl⟩) (by assumption) ?_
                      try simp only [Act.put, List.setIfInBounds_toArray, List.set_cons_zero, List.set_cons_succ]
                      refine wpAnyH_take (i := 15) (oi := ⟨_, _, _, _, _, _⟩) (v := undef) rfl (by kernel_rfl) (by kernel_rfl) (by kernel_rfl) (fun _ _ _ h => h) (Or.inr ⟨by rfl, rfl⟩) (by assumption) ?_
                      try simp only [Act.put, List.setIfInBounds_toArray, List.set_cons_zero, List.set_cons_succ]
                      refine wpAnyH_take (i := 16) (oi := ⟨_, _, _, _, _, _⟩) (v := undef) rfl (by kernel_rfl) (by kernel_rfl) (by kernel_rfl) (fun _ _ _ h => h) (Or.inr ⟨by rfl, rfl⟩) (by assumption) ?_
                      try simp only [Act.put, List.setIfInBounds_toArray, List.set_cons_zero, List.set_cons_succ]
                      refine wpAnyH_take (i := 17) (oi := ⟨_, _, _, _, _, _⟩) (v := undef) rfl (by kernel_rfl) (by kernel_rfl) (by kernel_rfl) (fun _ _ _ h => h) (Or.inr ⟨by rfl, rfl⟩) (by assumption) ?_
                      try simp only [Act.put, List.setIfInBounds_toArray, List.set_cons_zero, List.set_cons_succ]
                      refine wpAnyH_take (i := 18) (oi := ⟨_, _, _, _, _, _⟩) (v := undef) rfl (by kernel_rfl) (by kernel_rfl) (by kernel_rfl) (fun _ _ _ h => h) (Or.inr ⟨by rfl, rfl⟩) (by assumption) ?_
                      try simp only [Act.put, List.setIfInBounds_toArray, List.set_cons_zero, List.set_cons_succ]
                      refine wpAnyH_take (i := 19) (oi := ⟨_, _, _, _, _, _⟩) (v := ?vs19) rfl (by kernel_rfl) (by kernel_rfl) (by kernel_rfl) (fun _ _ _ h => h) (Or.inl ⟨by rfl, ?ys19⟩) (by assumption) ?rs19
                      case ys19 => intro w hSw; (try dsimp only at hSw); go_simp; try with_reducible rfl
                      try simp only [Act.put, List.setIfInBounds_toArray, List.set_cons_zero, List.set_cons_succ]
                      refine wpAnyH_take (i := 20) (oi := ⟨_, _, _, _, _, _⟩) (v := ?vs20) rfl (by kernel_rfl) (by kernel_rfl) (by kernel_rfl) (fun _ _ _ h => h) (Or.inl ⟨by rfl, ?ys20⟩) (by assumption) ?rs20
                      case ys20 => intro w hSw; (try dsimp only at hSw); go_simp; try with_reducible rfl
                      try simp only [Act.put, List.setIfInBounds_toArray, List.set_cons_zero, List.set_cons_succ]
                      refine wpAnyH_take (i := 21) (oi := ⟨_, _, _, _, _, _⟩) (v := ?vs21) rfl (by kernel_rfl) (by kernel_rfl) (by kernel_rfl) (fun _ _ _ h => h) (Or.inl ⟨by rfl, ?ys21⟩) (by assumption) ?rs21
                      case ys21 => intro w hSw; (try dsimp only at hSw); go_simp; try with_reducible rfl
                      try simp only [Act.put, List.setIfInBounds_toArray, List.set_cons_zero, List.set_cons_succ]
                      refine wpAnyH_done (by kernel_rfl) (NoPanic.normal ?_) _
                      go_wp2
                      go_ret
                      exact ⟨ret_bool HE.out.symm, BB3⟩
                    · have d7 : (((m.entry.length : Nat) : Int) == 0) = false := by rw [beq_eq_false_iff_ne]; omega
                      have hpos : 0 < m.entry.length := by omega
                      have hpi : (0 : Int) < ((m.entry.length : Nat) : Int) := by omega
                      obtain ⟨K6, O6, ea, hc0, -⟩ := q6 0 _ (enA_get hpos)
                      rw [Nat.zero_mul, Nat.add_zero] at hc0
                      obtain ⟨tm, htm⟩ : ∃ tm, (enA m.entry 0).term = tm := ⟨_, rfl⟩
                      rw [htm] at hc0
                      obtain ⟨b, hb⟩ : ∃ b, decide (m.pterm ≤ tm) = b := ⟨_, rfl⟩
                      have HE : Hid (okMa s.prs.length m = b) := by show _ = _; rw [HA.out, h8, decide_eq_false g3, htm, hb]; rfl
                      subst ea
                      clear g3 htm
                      go_enter Try.func46, Try.ntmps46
                      go_wp2_with fail
                      refine (l10There_q s _ _ _ _ _ _ _ h1).mono ?_
                      rintro r w1 ⟨rfl, hB⟩
                      have BB := stRa (HB _ _) hB
                      have n0 : w1.cell? ⟨w.heap.size, 0, none⟩ = some (.slice a0 s.prs.length c0) := celB hB (by simp [go_sem])
                      have n1 : w1.cell? ⟨w.heap.size, 1, none⟩ = some (.slice a1 s.mail.length c1) := celB hB (by simp [go_sem])
                      have e0 : w1.cell? ⟨w.heap.size + 1, 0, none⟩ = some (.bool false) := celB hB (by simp [go_sem])
                      have e1 : w1.cell? ⟨w.heap.size + 1, 1, none⟩ = some (.int .i64 m.fr) := celB hB (by simp [go_sem])
                      have e2 : w1.cell? ⟨w.heap.size + 1, 2, none⟩ = some (.int .i64 m.to) := celB hB (by simp [go_sem])
                      have e3 : w1.cell? ⟨w.heap.size + 1, 3, none⟩ = some (.int .i64 m.term) := celB hB (by simp [go_sem])
                      have e4 : w1.cell? ⟨w.heap.size + 1, 4, none⟩ = some (.int .i64 m.prev) := celB hB (by simp [go_sem])
                      have e5 : w1.cell? ⟨w.heap.size + 1, 5, none⟩ = some (.int .i64 m.pterm) := celB hB (by simp [go_sem])
                      have e6 : w1.cell? ⟨w.heap.size + 1, 6, none⟩ = some (.slice (some ⟨K6, O6, none⟩) m.entry.length k6) := celB hB (by simp [go_sem])
                      have e7 : w1.cell? ⟨w.heap.size + 1, 7, none⟩ = some (.int .i64 m.commit) := celB hB (by simp [go_sem])
                      have e8 : w1.cell? ⟨w.heap.size + 1, 8, none⟩ = some (.int .i64 m.mat) := celB hB (by simp [go_sem])
                      clear hB
                      go_wp2_with fail
                      refine (l10There_q s _ _ _ _ _ _ _ h2).mono ?_
                      rintro r w2 ⟨rfl, hB⟩
                      replace BB := stRa BB hB
                      replace n0 := celB hB n0
                      replace n1 := celB hB n1
                      replace e0 := celB hB e0
                      replace e1 := celB hB e1
                      replace e2 := celB hB e2
                      replace e3 := celB hB e3
                      replace e4 := celB hB e4
                      replace e5 := celB hB e5
                      replace e6 := celB hB e6
                      replace e7 := celB hB e7
                      replace e8 := celB hB e8
                      clear hB
                      go_wp2_with (go_at_call 35; refine (l1In_any _ _ _ _).mono ?_; rintro e w' ⟨he, hw⟩; rw [hw]; clear hw w'; (first | rw [h4] at he | rw [h5] at he | rw [h6] at he | rw [h7] at he); subst he)
                      have hcv := celB BB hc0
                      have kk : w2.drew.cell? ⟨w.heap.size + 1, 0, none⟩ = some (.bool false) ∧ w2.drew.cell? ⟨w.heap.size + 1, 1, none⟩ = some (.int .i64 m.fr) ∧ w2.drew.cell? ⟨w.heap.size + 1, 2, none⟩ = some (.int .i64 m.to) ∧ w2.drew.cell? ⟨w.heap.size + 1, 3, none⟩ = some (.int .i64 m.term) ∧ w2.drew.cell? ⟨w.heap.size + 1, 4, none⟩ = some (.int .i64 m.prev) ∧ w2.drew.cell? ⟨w.heap.size + 1, 5, none⟩ = some (.int .i64 m.pterm) ∧ w2.drew.cell? ⟨w.heap.size + 1, 6, none⟩ = some (.slice (some ⟨K6, O6, none⟩) m.entry.length k6) ∧ w2.drew.cell? ⟨w.heap.size + 1, 7, none⟩ = some (.int .i64 m.commit) ∧ w2.drew.cell? ⟨w.heap.size + 1, 8, none⟩ = some (.int .i64 m.mat) ∧ w2.drew.cell? ⟨K6, O6, none⟩ = some (.int .i64 tm) := ⟨celB (Below.refl _ _).drew e0, celB (Below.refl _ _).drew e1, celB (Below.refl _ _).drew e2, celB (Below.refl _ _).drew e3, celB (Below.refl _ _).drew e4, celB (Below.refl _ _).drew e5, celB (Below.refl _ _).drew e6, celB (Below.refl _ _).drew e7, celB (Below.refl _ _).drew e8, celB (Below.refl _ _).drew hcv⟩
                      have kq := kk
                      obtain ⟨f0, f1, f2, f3, f4, f5, f6, f7, f8, f9⟩ := kq
                      clear e0 e1 e2 e3 e4 e5 e6 e7 e8 hcv
                      refine wp_region_noPanic ?_
                      refine wp_region_held_drew (S := fun w' => w'.cell? ⟨w.heap.size + 1, 0, none⟩ = some (.bool false) ∧ w'.cell? ⟨w.heap.size + 1, 1, none⟩ = some (.int .i64 m.fr) ∧ w'.cell? ⟨w.heap.size + 1, 2, none⟩ = some (.int .i64 m.to) ∧ w'.cell? ⟨w.heap.size + 1, 3, none⟩ = some (.int .i64 m.term) ∧ w'.cell? ⟨w.heap.size + 1, 4, none⟩ = some (.int .i64 m.prev) ∧ w'.cell? ⟨w.heap.size + 1, 5, none⟩ = some (.int .i64 m.pterm) ∧ w'.cell? ⟨w.heap.size + 1, 6, none⟩ = some (.slice (some ⟨K6, O6, none⟩) m.entry.length k6) ∧ w'.cell? ⟨w.heap.size + 1, 7, none⟩ = some (.int .i64 m.commit) ∧ w'.cell? ⟨w.heap.size + 1, 8, none⟩ = some (.int .i64 m.mat) ∧ w'.cell? ⟨K6, O6, none⟩ = some (.int .i64 tm)) (by kernel_rfl) kk (fun hH => ?_)
                      refine wpAnyH_take (i := 0) (oi := ⟨_, _, _, _, _, _⟩) (v := ?vt0) rfl (by kernel_rfl) (by kernel_rfl) (by kernel_rfl) (fun _ _ _ h => h) (Or.inl ⟨by rfl, ?yt0⟩) (by assumption) ?rt0
                      case yt0 => intro w hSw; (try dsimp only at hSw); go_simp; try with_reducible rfl
                      try simp only [Act.put, List.setIfInBounds_toArray, List.set_cons_zero, List.set_cons_succ]
                      refine wpAnyH_take (i := 1) (oi := ⟨_, _, _, _, _, _⟩) (v := ?vt1) rfl (by kernel_rfl) (by kernel_rfl) (by kernel_rfl) (fun _ _ _ h => h) (Or.inl ⟨by rfl, ?yt1⟩) (by assumption) ?rt1
                      case yt1 => intro w hSw; (try dsimp only at hSw); go_simp; try with_reducible rfl
                      try simp only [Act.put, List.setIfInBounds_toArray, List.set_cons_zero, List.set_cons_succ]
                      refine wpAnyH_take (i := 2) (oi := ⟨_, _, _, _, _, _⟩) (v := ?vt2) rfl (by kernel_rfl) (by kernel_rfl) (by kernel_rfl) (fun _ _ _ h => h) (Or.inl ⟨by rfl, ?yt2⟩) (by assumption) ?rt2
                      case yt2 => intro w hSw; (try dsimp only at hSw); go_simp; try with_reducible rfl
                      try simp only [Act.put, List.setIfInBounds_toArray, List.set_cons_zero, List.set_cons_succ]
                      refine wpAnyH_take (i := 3) (oi := ⟨_, _, _, _, _, _⟩) (v := ?vt3) rfl (by kernel_rfl) (by kernel_rfl) (by kernel_rfl) (fun _ _ _ h => h) (Or.inl ⟨by rfl, ?yt3⟩) (by assumption) ?rt3
                      case yt3 => intro w hSw; (try dsimp only at hSw); go_simp; try with_reducible rfl
                      try simp only [Act.put, List.setIfInBounds_toArray, List.set_cons_zero, List.set_cons_succ]
                      refine wpAnyH_ready (rs := [4]) (by kernel_rfl) (by simp) ?_
                      refine AllReadyH.cons (o := ⟨_, _, _, _, _, _⟩) rfl (fun KK hK => ?_) AllReadyH.nil
                      go_simp
                      refine (l10Log_c _ _ _ _ _ _ ((q6.below BB).below (Below.refl _ _).drew) m6 h8).mono ?_
                      rintro r w3 ⟨rfl, hB3⟩
                      have BB3 : Below w.heap.size w w3 := stRa BB ((Below.refl _ _).drew.trans (hB3.mono (by simp)))
                      have kk3 : w3.cell? ⟨w.heap.size + 1, 0, none⟩ = some (.bool false) ∧ w3.cell? ⟨w.heap.size + 1, 1, none⟩ = some (.int .i64 m.fr) ∧ w3.cell? ⟨w.heap.size + 1, 2, none⟩ = some (.int .i64 m.to) ∧ w3.cell? ⟨w.heap.size + 1, 3, none⟩ = some (.int .i64 m.term) ∧ w3.cell? ⟨w.heap.size + 1, 4, none⟩ = some (.int .i64 m.prev) ∧ w3.cell? ⟨w.heap.size + 1, 5, none⟩ = some (.int .i64 m.pterm) ∧ w3.cell? ⟨w.heap.size + 1, 6, none⟩ = some (.slice (some ⟨K6, O6, none⟩) m.entry.length k6) ∧ w3.cell? ⟨w.heap.size + 1, 7, none⟩ = some (.int .i64 m.commit) ∧ w3.cell? ⟨w.heap.size + 1, 8, none⟩ = some (.int .i64 m.mat) ∧ w3.cell? ⟨K6, O6, none⟩ = some (.int .i64 tm) := ⟨celB hB3 f0, celB hB3 f1, celB hB3 f2, celB hB3 f3, celB hB3 f4, celB hB3 f5, celB hB3 f6, celB hB3 f7, celB hB3 f8, celB hB3 f9⟩
                      clear hB3
                      go_wp2_with fail
                      refine hK.out _ _ kk3 (fun hH4 => ?_)
                      clear hK KK hH
                      try simp only [Act.put, List.setIfInBounds_toArray, List.set_cons_zero, List.set_cons_succ]
                      refine wpAnyH_take (i := 5) (oi := ⟨_, _, _, _, _, _⟩) (v := ?vt5) rfl (by kernel_rfl) (by kernel_rfl) (by kernel_rfl) (fun _ _ _ h => h) (Or.inl ⟨by rfl, ?yt5⟩) (by assumption) ?rt5
                      case yt5 => intro w hSw; (try dsimp only at hSw); go_simp; try with_reducible rfl
                      try simp only [Act.put, List.setIfInBounds_toArray, List.set_cons_zero, List.set_cons_succ]
                      refine wpAnyH_take (i := 6) (oi := ⟨_, _, _, _, _, _⟩) (v := ?vt6) rfl (by kernel_rfl) (by kernel_rfl) (by kernel_rfl) (fun _ _ _ h => h) (Or.inl ⟨by rfl, ?yt6⟩) (by assumption) ?rt6
                      case yt6 => intro w hSw; (try dsimp only at hSw); go_simp; try with_reducible rfl
                      try simp only [Act.put, List.setIfInBounds_toArray, List.set_cons_zero, List.set_cons_succ]
                      refine wpAnyH_take (i := 7) (oi := ⟨_, _, _, _, _, _⟩) (v := ?vt7) rfl (by kernel_rfl) (by kernel_rfl) (by kernel_rfl) (fun _ _ _ h => h) (Or.inl ⟨by rfl, ?yt7⟩) (by assumption) ?rt7
                      case yt7 => intro w hSw; (try dsimp only at hSw); go_simp; try with_reducible rfl
                      try simp only [Act.put, List.setIfInBounds_toArray, List.set_cons_zero, List.set_cons_succ]
                      refine wpAnyH_take (i := 8) (oi := ⟨_, _, _, _, _, _⟩) (v := ?vt8) rfl (by kernel_rfl) (by kernel_rfl) (by kernel_rfl) (fun _ _ _ h => h) (Or.inl ⟨by rfl, ?yt8⟩) (by assumption) ?rt8
                      case yt8 => intro w hSw; (try dsimp only at hSw); go_simp; try with_reducible rfl
                      try simp only [Act.put, List.setIfInBounds_toArray, List.set_cons_zero, List.set_cons_succ]
                      refine wpAnyH_take (i := 9) (oi := ⟨_, _, _, _, _, _⟩) (v := ?vt9) rfl (by kernel_rfl) (by kernel_rfl) (by kernel_rfl) (fun _ _ _ h => h) (Or.inl ⟨by rfl, ?yt9⟩) (by assumption) ?rt9
                      case yt9 => intro w hSw; (try dsimp only at hSw); go_simp; try with_reducible rfl
                      try simp only [Act.put, List.setIfInBounds_toArray, List.set_cons_zero, List.set_cons_succ]
                      refine wpAnyH_take (i := 10) (oi := ⟨_, _, _, _, _, _⟩) (v := ?vt10) rfl (by kernel_rfl) (by kernel_rfl) (by kernel_rfl) (fun _ _ _ h => h) (Or.inl ⟨by rfl, ?yt10⟩) (by assumption) ?rt10
                      case yt10 => intro w hSw; (try dsimp only at hSw); go_simp; try with_reducible rfl
                      try simp only [Act.put, List.setIfInBounds_toArray, List.set_cons_zero, List.set_cons_succ]
                      refine wpAnyH_take (i := 11) (oi := ⟨_, _, _, _, _, _⟩) (v := ?vt11) rfl (by kernel_rfl) (by kernel_rfl) (by kernel_rfl) (fun _ _ _ h => h) (Or.inl ⟨by rfl, ?yt11⟩) (by assumption) ?rt11
                      case yt11 => intro w hSw; (try dsimp only at hSw); go_simp; try with_reducible rfl
                      try simp only [Act.put, List.setIfInBounds_toArray, List.set_cons_zero, List.set_cons_succ]
                      refine wpAnyH_take (i := 12) (oi := ⟨_, _, _, _, _, _⟩) (v := ?vt12) rfl (by kernel_rfl) (by kernel_rfl) (by kernel_rfl) (fun _ _ _ h => h) (Or.inl ⟨by rfl, ?yt12⟩) (by assumption) ?rt12
                      case yt12 => intro w hSw; (try dsimp only at hSw); go_simp; try with_reducible rfl
                      try simp only [Act.put, List.setIfInBounds_toArray, List.set_cons_zero, List.set_cons_succ]
                      refine wpAnyH_take (i := 13) (oi := ⟨_, _, _, _, _, _⟩) (v := ?vt13) rfl (by kernel_rfl) (by kernel_rfl) (by kernel_rfl) (fun _ _ _ h => h) (Or.inl ⟨by rfl, ?yt13⟩) (by assumption) ?rt13
                      case yt13 => intro w hSw; (try dsimp only at hSw); go_simp; try with_reducible rfl
                      try simp only [Act.put, List.setIfInBounds_toArray, List.set_cons_zero, List.set_cons_succ]
                      refine wpAnyH_take (i := 14) (oi := ⟨_, _, _, _, _, _⟩) (v := ?vt14) rfl (by kernel_rfl) (by kernel_rfl) (by kernel_rfl) (fun _ _ _ h => h) (Or.inl ⟨by rfl, ?yt14⟩) (by assumption) ?rt14
                      case yt14 => intro w hSw; (try dsimp only at hSw); go_simp; try with_reducible rfl
                      try simp only [Act.put, List.setIfInBounds_toArray, List.set_cons_zero, List.set_cons_succ]
                      refine wpAnyH_take (i := 15) (oi := ⟨_, _, _, _, _, _⟩) (v := ?vt15) rfl (by kernel_rfl) (by kernel_rfl) (by kernel_rfl) (fun _ _ _ h => h) (Or.inl ⟨by rfl, ?yt15⟩) (by assumption) ?rt15
                      case yt15 => intro w hSw; (try dsimp only at hSw); go_simp; try with_reducible rfl
                      try simp only [Act.put, List.setIfInBounds_toArray, List.set_cons_zero, List.set_cons_succ]
                      refine wpAnyH_take (i := 16) (oi := ⟨_, _, _, _, _, _⟩) (v := ?vt16) rfl (by kernel_rfl) (by kernel_rfl) (by kernel_rfl) (fun _ _ _ h => h) (Or.inl ⟨by rfl, ?yt16⟩) (by assumption) ?rt16
                      case yt16 => intro w hSw; (try dsimp only at hSw); go_simp; try with_reducible rfl
                      try simp only [Act.put, List.setIfInBounds_toArray, List.set_cons_zero, List.set_cons_succ]
                      refine wpAnyH_take (i := 17) (oi := ⟨_, _, _, _, _, _⟩) (v := ?vt17) rfl (by kernel_rfl) (by kernel_rfl) (by kernel_rfl) (fun _ _ _ h => h) (Or.inl ⟨by rfl, ?yt17⟩) (by assumption) ?rt17
                      case yt17 => intro w hSw; (try dsimp only at hSw); go_simp; try with_reducible rfl
                      try simp only [Act.put, List.setIfInBounds_toArray, List.set_cons_zero, List.set_cons_succ]
                      refine wpAnyH_take (i := 18) (oi := ⟨_, _, _, _, _, _⟩) (v := ?vt18) rfl (by kernel_rfl) (by kernel_rfl) (by kernel_rfl) (fun _ _ _ h => h) (Or.inl ⟨by rfl, ?yt18⟩) (by assumption) ?rt18
                      case yt18 => intro w hSw; (try dsimp only at hSw); go_simp; try with_reducible rfl
                      try simp only [Act.put, List.setIfInBounds_toArray, List.set_cons_zero, List.set_cons_succ]
                      refine wpAnyH_take (i := 19) (oi := ⟨_, _, _, _, _, _⟩) (v := ?vt19) rfl (by kernel_rfl) (by kernel_rfl) (by kernel_rfl) (fun _ _ _ h => h) (Or.inl ⟨by rfl, ?yt19⟩) (by assumption) ?rt19
                      case yt19 => intro w hSw; (try dsimp only at hSw); go_simp; try with_reducible rfl
                      try simp only [Act.put, List.setIfInBounds_toArray, List.set_cons_zero, List.set_cons_succ]
                      refine wpAnyH_take (i := 20) (oi := ⟨_, _, _, _, _, _⟩) (v := ?vt20) rfl (by kernel_rfl) (by kernel_rfl) (by kernel_rfl) (fun _ _ _ h => h) (Or.inl ⟨by rfl, ?yt20⟩) (by assumption) ?rt20
                      case yt20 => intro w hSw; (try dsimp only at hSw); go_simp; try with_reducible rfl
                      try simp only [Act.put, List.setIfInBounds_toArray, List.set_cons_zero, List.set_cons_succ]
                      refine wpAnyH_take (i := 21) (oi := ⟨_, _, _, _, _, _⟩) (v := ?vt21) rfl (by kernel_rfl) (by kernel_rfl) (by kernel_rfl) (fun _ _ _ h => h) (Or.inl ⟨by rfl, ?yt21⟩) (by assumption) ?rt21
                      case yt21 => intro w hSw; (try dsimp only at hSw); go_simp; try with_reducible rfl
                      try simp only [Act.put, List.setIfInBounds_toArray, List.set_cons_zero, List.set_cons_succ]
                      refine wpAnyH_done (by kernel_rfl) (NoPanic.normal ?_) _
                      go_wp2
                      go_ret
                      exact ⟨ret_bool (by first | exact HE.out.symm | (rw [HE.out, ← hb])), BB3⟩

end Go.Proofs.Ytglncbhbeikclaa
