/-
  Worlds of chapter 8, the specification's side: spec.l8Picture answers goodPc. Made by mksnpic.py.
-/
import Derived.Test.YtaoecafibmfphaaSnS
namespace Go.Proofs.Ytaoecafibmfphaa
open Go.RowKit

set_option maxRecDepth 100000 in
set_option maxHeartbeats 8000000 in
theorem l8Picture_any (s : Sn) (a0 a1 a2 : Option Addr) (c0 c1 c2 k : Nat) (w : World) (hs : Pcs w a2 s.pcs) (hk : k < s.pcs.length) (hkn0 : k < s.am.length) :
    Calls Try.prog 55 #[snV s a0 c0 a1 c1 a2 c2, .int .i64 (k : Int)] w fun e w' => e = .returned (.bool (goodPc (pcA s.pcs k) k s.am.length)) ∧ Below w.heap.size w w' := by
  have HB : ∀ x y, Below w.heap.size w ((w.alloc x).alloc y) := fun _ _ => ((Below.refl _ _).alloc (Nat.le_refl _) _).alloc (by simp) _
  obtain ⟨kb, ob, rfl, r2, k2', r3, k3', e0, e1, e2, e3, q2, m2, q3, m3⟩ := hs k _ (pcA_get hk)
  have z0 : ∀ x, (w.alloc x).cell? ⟨kb, ob + k * 4, none⟩ = some (.bool (pcA s.pcs k).tk) := fun x => celB (alB w x) e0
  have z1 : ∀ x, (w.alloc x).cell? ⟨kb, ob + k * 4 + 1, none⟩ = some (.int .i64 (pcA s.pcs k).am) := fun x => celB (alB w x) e1
  have z2 : ∀ x, (w.alloc x).cell? ⟨kb, ob + k * 4 + 2, none⟩ = some (.slice r2 (pcA s.pcs k).ins.length k2') := fun x => celB (alB w x) e2
  have z3 : ∀ x, (w.alloc x).cell? ⟨kb, ob + k * 4 + 3, none⟩ = some (.slice r3 (pcA s.pcs k).cl.length k3') := fun x => celB (alB w x) e3
  have hk1 : (k : Int) < (s.pcs.length : Int) := by omega
  obtain ⟨p, hp⟩ : ∃ p, pcA s.pcs k = p := ⟨_, rfl⟩
  rw [hp] at z0 z1 z2 z3 q2 m2 q3 m3 ⊢
  obtain ⟨am, chs, pcs, sent, total⟩ := s
  simp only at *
  obtain ⟨n, hn⟩ : ∃ n, am.length = n := ⟨_, rfl⟩
  rw [hn] at hkn0 ⊢
  have hkn : k < n := hkn0
  simp only [snV]
  rw [hn]
  unfold maxLen at m2 m3
  clear hs e0 e1 e2 e3 hp hn hkn0
  by_cases e1 : ¬ (p.ins.length = n)
  · have d1 : (((p.ins.length : Nat) : Int) != (n : Int)) = true := by simp; omega
    have HE : Hid (goodPc p k n = false) := goodPc_head hkn (fun g => e1 g.1)
    clear e1 q2 q3
    go_enter Try.func55, Try.ntmps55
    go_wp2
    go_quiet (fail)
    go_wp2
    go_ret
    exact ⟨ret_bool HE.out.symm, below_drewN (HB _ _) _⟩
  replace e1 : p.ins.length = n := Decidable.of_not_not e1
  have d1 : (((p.ins.length : Nat) : Int) != (n : Int)) = false := by simp [e1]
  by_cases e2 : ¬ (p.cl.length = n)
  · have d2 : (((p.cl.length : Nat) : Int) != (n : Int)) = true := by simp; omega
    have HE : Hid (goodPc p k n = false) := goodPc_head hkn (fun g => e2 g.2.1)
    clear e1 e2 q2 q3
    go_enter Try.func55, Try.ntmps55
    go_wp2
    go_quiet (fail)
    go_wp2
    go_ret
    exact ⟨ret_bool HE.out.symm, below_drewN (HB _ _) _⟩
  replace e2 : p.cl.length = n := Decidable.of_not_not e2
  have d2 : (((p.cl.length : Nat) : Int) != (n : Int)) = false := by simp [e2]
  obtain ⟨b2, f2, rfl, x2⟩ := q2 k _ (zA_get (by omega))
  obtain ⟨b3, f3, rfl, x3⟩ := q3 k _ (boA_get (by omega))
  have y2 : ∀ x y, ((w.alloc x).alloc y).cell? ⟨b2, f2 + k, none⟩ = some (.int .i64 (zA p.ins k)) := fun x y => celB (HB x y) x2
  have y3 : ∀ x y, ((w.alloc x).alloc y).cell? ⟨b3, f3 + k, none⟩ = some (.bool (boA p.cl k)) := fun x y => celB (HB x y) x3
  have k2 : (k : Int) < (p.ins.length : Int) := by omega
  have k3 : (k : Int) < (p.cl.length : Int) := by omega
  have HL : Hid (p.ins.length = n ∧ p.cl.length = n) := ⟨e1, e2⟩
  clear x2 x3 e1 e2
  cases hg : inB p.am 0 1000 with
  | false =>
    have HE : Hid (goodPc p k n = false) := goodPc_head hkn (fun g => by have := g.2.2.1; rw [hg] at this; cases this)
    clear q2 q3
    go_enter Try.func55, Try.ntmps55
    go_wp2
    go_quiet ((go_at_call 37; exact Calls.quiet_of_same (l1In_b _ _ _ _ _ hg)))
    go_wp2
    go_ret
    exact ⟨ret_bool HE.out.symm, below_drewN (HB _ _) _⟩
  | true =>
    cases htk : p.tk with
    | true =>
      by_cases ez : ¬ (zA p.ins k = 0)
      · have dz : (zA p.ins k != 0) = true := by simp [ez]
        have HE : Hid (goodPc p k n = false) := goodPc_head hkn (fun g => ez g.2.2.2.2.1)
        clear ez q2 q3
        go_enter Try.func55, Try.ntmps55
        go_wp2
        go_quiet ((go_at_call 37; exact Calls.quiet_of_same (l1In_b _ _ _ _ _ hg)))
        go_wp2
        go_ret
        exact ⟨ret_bool HE.out.symm, below_drewN (HB _ _) _⟩
      replace ez : zA p.ins k = 0 := Decidable.of_not_not ez
      have dz : (zA p.ins k != 0) = false := by simp [ez]
      cases hbo : boA p.cl k with
      | true =>
        rw [hbo] at y3
        have HH : Hid (headP p k n) := ⟨HL.out.1, HL.out.2, hg, (fun g => by rw [htk] at g; cases g), ez, hbo.trans htk.symm⟩
        have hcl : Hid (p.cl.length = p.ins.length) := HL.out.2.trans HL.out.1.symm
        clear ez hbo
        go_enter Try.func55, Try.ntmps55
        go_wp2
        go_quiet ((go_at_call 37; exact Calls.quiet_of_same (l1In_b _ _ _ _ _ hg)))
        go_wp2
        go_loop [66] (fun x => ∃ i : Nat, i ≤ p.ins.length ∧ x = .int .i64 i ∧ inTo p i) (fun x => p.ins.length - (intOf x).toNat)
        case atStart => exact ⟨0, Nat.zero_le _, rfl, fun i hi => absurd hi (Nat.not_lt_zero _)⟩
        case round =>
          obtain ⟨i, hi, rfl, hok⟩ := hrel
          have HO : Hid (inTo p i) := hok
          clear hok
          by_cases hlt : i < p.ins.length
          · obtain ⟨b, off, eb, hc0⟩ := q2 i _ (zA_get hlt)
            simp only [Option.some.injEq, Addr.mk.injEq, and_true] at eb
            obtain ⟨rfl, rfl⟩ := eb
            have hc : ∀ x y n, (((w.alloc x).alloc y).drewN n).cell? ⟨b2, f2 + i, none⟩ = some (.int .i64 (zA p.ins i)) := fun x y n => celB (below_drewN (HB x y) n) hc0
            have hi3 : i < p.cl.length := by have := hcl.out; omega
            obtain ⟨b', off', eb', hd0⟩ := q3 i _ (boA_get hi3)
            simp only [Option.some.injEq, Addr.mk.injEq, and_true] at eb'
            obtain ⟨rfl, rfl⟩ := eb'
            have hd : ∀ x y n, (((w.alloc x).alloc y).drewN n).cell? ⟨b3, f3 + i, none⟩ = some (.bool (boA p.cl i)) := fun x y n => celB (below_drewN (HB x y) n) hd0
            have hi3' : (i : Int) < (p.cl.length : Int) := by omega
            clear q2 q3 hc0 hd0
            cases hgi : inB (zA p.ins i) 0 1000000 with
            | false =>
              have HE : Hid (goodPc p k n = false) := goodPc_in hkn hlt (fun g => by rw [hgi] at g; cases g.1)
              go_wp2_with (go_at_call 37; refine (l1In_b _ _ _ _ _ hgi).mono ?_; rintro e w' ⟨rfl, rfl⟩)
              go_ret
              exact ⟨ret_bool HE.out.symm, below_drewN (HB _ _) _⟩
            | true =>
              have HN : Hid (inTo p (i + 1)) := inTo_succ HO.out ⟨hgi, fun g => by rw [htk] at g; cases g⟩
              go_wp2_with (go_at_call 37; refine (l1In_b _ _ _ _ _ hgi).mono ?_; rintro e w' ⟨rfl, rfl⟩)
              go_round
              case rel => exact ⟨i + 1, by omega, by go_num, HN.out⟩
              case measure => simp [intOf]; omega
          · obtain rfl : i = p.ins.length := by omega
            have HE : Hid (goodPc p k n = true) := (goodPc_iff hkn).2 ⟨HH.out, HO.out⟩
            go_wp2
            go_ret
            exact ⟨ret_bool HE.out.symm, below_drewN (HB _ _) _⟩
      | false =>
        rw [hbo] at y3
        have HE : Hid (goodPc p k n = false) := goodPc_head hkn (fun g => by have := g.2.2.2.2.2; rw [hbo, htk] at this; cases this)
        clear ez hbo q2 q3
        go_enter Try.func55, Try.ntmps55
        go_wp2
        go_quiet ((go_at_call 37; exact Calls.quiet_of_same (l1In_b _ _ _ _ _ hg)))
        go_wp2
        go_ret
        exact ⟨ret_bool HE.out.symm, below_drewN (HB _ _) _⟩
    | false =>
      by_cases ea : ¬ (p.am = 0)
      · have da : (p.am != 0) = true := by simp [ea]
        have HE : Hid (goodPc p k n = false) := goodPc_head hkn (fun g => ea (g.2.2.2.1 htk))
        clear ea q2 q3
        go_enter Try.func55, Try.ntmps55
        go_wp2
        go_quiet ((go_at_call 37; exact Calls.quiet_of_same (l1In_b _ _ _ _ _ hg)))
        go_wp2
        go_ret
        exact ⟨ret_bool HE.out.symm, below_drewN (HB _ _) _⟩
      replace ea : p.am = 0 := Decidable.of_not_not ea
      have da : (p.am != 0) = false := by simp [ea]
      have EA : Hid (p.am = 0) := ea
      clear ea
      by_cases ez : ¬ (zA p.ins k = 0)
      · have dz : (zA p.ins k != 0) = true := by simp [ez]
        have HE : Hid (goodPc p k n = false) := goodPc_head hkn (fun g => ez g.2.2.2.2.1)
        clear ez q2 q3
        go_enter Try.func55, Try.ntmps55
        go_wp2
        go_quiet ((go_at_call 37; exact Calls.quiet_of_same (l1In_b _ _ _ _ _ hg)))
        go_wp2
        go_ret
        exact ⟨ret_bool HE.out.symm, below_drewN (HB _ _) _⟩
      replace ez : zA p.ins k = 0 := Decidable.of_not_not ez
      have dz : (zA p.ins k != 0) = false := by simp [ez]
      cases hbo : boA p.cl k with
      | true =>
        rw [hbo] at y3
        have HE : Hid (goodPc p k n = false) := goodPc_head hkn (fun g => by have := g.2.2.2.2.2; rw [hbo, htk] at this; cases this)
        clear ez hbo q2 q3
        go_enter Try.func55, Try.ntmps55
        go_wp2
        go_quiet ((go_at_call 37; exact Calls.quiet_of_same (l1In_b _ _ _ _ _ hg)))
        go_wp2
        go_ret
        exact ⟨ret_bool HE.out.symm, below_drewN (HB _ _) _⟩
      | false =>
        rw [hbo] at y3
        have HH : Hid (headP p k n) := ⟨HL.out.1, HL.out.2, hg, (fun _ => EA.out), ez, hbo.trans htk.symm⟩
        have hcl : Hid (p.cl.length = p.ins.length) := HL.out.2.trans HL.out.1.symm
        clear ez hbo
        go_enter Try.func55, Try.ntmps55
        go_wp2
        go_quiet ((go_at_call 37; exact Calls.quiet_of_same (l1In_b _ _ _ _ _ hg)))
        go_wp2
        go_loop [66] (fun x => ∃ i : Nat, i ≤ p.ins.length ∧ x = .int .i64 i ∧ inTo p i) (fun x => p.ins.length - (intOf x).toNat)
        case atStart => exact ⟨0, Nat.zero_le _, rfl, fun i hi => absurd hi (Nat.not_lt_zero _)⟩
        case round =>
          obtain ⟨i, hi, rfl, hok⟩ := hrel
          have HO : Hid (inTo p i) := hok
          clear hok
          by_cases hlt : i < p.ins.length
          · obtain ⟨b, off, eb, hc0⟩ := q2 i _ (zA_get hlt)
            simp only [Option.some.injEq, Addr.mk.injEq, and_true] at eb
            obtain ⟨rfl, rfl⟩ := eb
            have hc : ∀ x y n, (((w.alloc x).alloc y).drewN n).cell? ⟨b2, f2 + i, none⟩ = some (.int .i64 (zA p.ins i)) := fun x y n => celB (below_drewN (HB x y) n) hc0
            have hi3 : i < p.cl.length := by have := hcl.out; omega
            obtain ⟨b', off', eb', hd0⟩ := q3 i _ (boA_get hi3)
            simp only [Option.some.injEq, Addr.mk.injEq, and_true] at eb'
            obtain ⟨rfl, rfl⟩ := eb'
            have hd : ∀ x y n, (((w.alloc x).alloc y).drewN n).cell? ⟨b3, f3 + i, none⟩ = some (.bool (boA p.cl i)) := fun x y n => celB (below_drewN (HB x y) n) hd0
            have hi3' : (i : Int) < (p.cl.length : Int) := by omega
            clear q2 q3 hc0 hd0
            cases hgi : inB (zA p.ins i) 0 1000000 with
            | false =>
              have HE : Hid (goodPc p k n = false) := goodPc_in hkn hlt (fun g => by rw [hgi] at g; cases g.1)
              go_wp2_with (go_at_call 37; refine (l1In_b _ _ _ _ _ hgi).mono ?_; rintro e w' ⟨rfl, rfl⟩)
              go_ret
              exact ⟨ret_bool HE.out.symm, below_drewN (HB _ _) _⟩
            | true =>
              by_cases ez : zA p.ins i = 0
              · have dz : (zA p.ins i != 0) = false := by simp [ez]
                cases hbo : boA p.cl i with
                | true =>
                  have HE : Hid (goodPc p k n = false) := goodPc_in hkn hlt (fun g => by have := (g.2 htk).2; rw [hbo] at this; cases this)
                  rw [hbo] at hd
                  clear ez hbo
                  go_wp2_with (go_at_call 37; refine (l1In_b _ _ _ _ _ hgi).mono ?_; rintro e w' ⟨rfl, rfl⟩)
                  go_ret
                  exact ⟨ret_bool HE.out.symm, below_drewN (HB _ _) _⟩
                | false =>
                  have HN : Hid (inTo p (i + 1)) := inTo_succ HO.out ⟨hgi, fun _ => ⟨ez, hbo⟩⟩
                  rw [hbo] at hd
                  clear ez hbo
                  go_wp2_with (go_at_call 37; refine (l1In_b _ _ _ _ _ hgi).mono ?_; rintro e w' ⟨rfl, rfl⟩)
                  go_round
                  case rel => exact ⟨i + 1, by omega, by go_num, HN.out⟩
                  case measure => simp [intOf]; omega
              · have dz : (zA p.ins i != 0) = true := by simp [ez]
                have HE : Hid (goodPc p k n = false) := goodPc_in hkn hlt (fun g => ez (g.2 htk).1)
                clear ez
                go_wp2_with (go_at_call 37; refine (l1In_b _ _ _ _ _ hgi).mono ?_; rintro e w' ⟨rfl, rfl⟩)
                go_ret
                exact ⟨ret_bool HE.out.symm, below_drewN (HB _ _) _⟩
          · obtain rfl : i = p.ins.length := by omega
            have HE : Hid (goodPc p k n = true) := (goodPc_iff hkn).2 ⟨HH.out, HO.out⟩
            go_wp2
            go_ret
            exact ⟨ret_bool HE.out.symm, below_drewN (HB _ _) _⟩

end Go.Proofs.Ytaoecafibmfphaa
