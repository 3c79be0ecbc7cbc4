/-
  Good events, the specification's side: the contract of spec.GoodEvents.
-/
import Derived.Test.YtiabgomeogcpnaaDoorEvSK
namespace Go.Proofs.YtiabgomeogcpnaaDoor
open Go.RowKit

theorem l1In_tE (n lo hi : Int) (w : World) (h : inB n lo hi = true) : Calls Tryd.prog 37 #[.int .i64 n, .int .i64 lo, .int .i64 hi] w fun e w' => e = .returned (.bool true) ∧ w' = w :=
  (l1In_any n lo hi w).mono fun e w' ⟨he, hw⟩ => ⟨he.trans (by rw [h]), hw⟩

theorem mayS_1 {l : List Ev} {i : Nat} {e : Ev} (h : e.kd = 1) : mayC l i e ↔ e.ms = 0 := by unfold mayC; omega
theorem mayS_2 {l : List Ev} {i : Nat} {e : Ev} (h : e.kd = 2) : mayC l i e ↔ (1 ≤ e.ms ∧ e.ms ≤ 24) ∧ fnd l 2 e.ms i < 0 := by unfold mayC; omega
theorem mayS_3 {l : List Ev} {i : Nat} {e : Ev} (h : e.kd = 3) : mayC l i e ↔ 0 ≤ fnd l 2 e.ms i ∧ (evA l (fnd l 2 e.ms i).toNat).pr ≠ e.pr ∧ fnd l 3 e.ms i < 0 := by unfold mayC; omega
theorem mayS_0 {l : List Ev} {i : Nat} {e : Ev} (h1 : e.kd ≠ 1) (h2 : e.kd ≠ 2) (h3 : e.kd ≠ 3) : ¬ mayC l i e := by unfold mayC; omega

set_option maxRecDepth 100000 in
set_option maxHeartbeats 4000000 in
theorem specGoodEv_any (procs : Int) (a : Option Addr) (l : List Ev) (w : World) (hs : Evs w a l) (hl : l.length ≤ maxLen) {lcap : Nat} (hcap : l.length ≤ lcap := by assumption) :
    Calls Tryd.prog 30 #[.int .i64 procs, .slice a l.length lcap] w fun r w' => r = .returned (.bool (goodEv procs l)) ∧ Below w.heap.size w w' := by
  have hlm := hl
  unfold maxLen at hl
  have hgt := eqGuardEv
  go_enter Tryd.func30, Tryd.ntmps30
  go_wp2
  go_loopw [12] (fun i wr => ∃ k : Nat, k ≤ l.length ∧ i = .int .i64 k ∧ okEv procs l k ∧ Below w.heap.size w wr) (fun i _ => l.length - (intOf i).toNat)
  case atStart => exact ⟨0, Nat.zero_le _, rfl, fun i hi => absurd hi (Nat.not_lt_zero _), Below.refl _ _⟩
  case round =>
    obtain ⟨k, hk, rfl, hok, hB⟩ := hrel
    have HO : Hid (okEv procs l k) := hok
    clear hok
    by_cases hlt : k < l.length
    · have hs1 := hs.below hB
      obtain ⟨b, off, rfl, c0, c1, c2⟩ := hs1 k _ (evA_get hlt)
      obtain ⟨x, hx⟩ : ∃ x, evA l k = x := ⟨_, rfl⟩
      have HX : Hid (evA l k = x) := hx
      have HB1 : Hid (¬ ((0 ≤ x.pr ∧ x.pr < procs) ∧ mayC l k x) → goodEv procs l = false) := fun h => okEv_bad hlt (fun g => h (by unfold okEv1 at g; rwa [hx] at g))
      have HO1 : Hid (0 ≤ x.pr ∧ x.pr < procs → mayC l k x → okEv procs l (k + 1)) := fun h g => okEv_succ HO.out (by unfold okEv1; rw [hx]; exact ⟨h, g⟩)
      rw [hx] at c0 c1 c2
      clear hx HO
      have hal : Below wr.heap.size wr (wr.alloc (.cells #[.int .i64 x.pr, .int .i64 x.kd, .int .i64 x.ms] 58)) := (Below.refl _ _).alloc (Nat.le_refl _) _
      have hBn := hB.trans (hal.mono hB.size)
      have hs2 := hs1.below hal
      have lb := lt_of_cell c0
      clear hs1 hs
      have hk0 : (0 : Int) ≤ (k : Int) := by omega
      have hk1 : (k : Int) ≤ (l.length : Int) := by omega
      by_cases hp0 : x.pr < 0
      · have HR : Hid (goodEv procs l = false) := HB1.out (by omega)
        go_wp2
        go_ret
        exact ⟨ret_bool HR.out.symm, hBn⟩
      by_cases hp1 : procs ≤ x.pr
      · have HR : Hid (goodEv procs l = false) := HB1.out (by omega)
        go_wp2
        go_ret
        exact ⟨ret_bool HR.out.symm, hBn⟩
      have HO2 : Hid (mayC l k x → okEv procs l (k + 1)) := fun g => HO1.out (by omega) g
      have HB2 : Hid (¬ mayC l k x → goodEv procs l = false) := fun h => HB1.out (fun g => h g.2)
      clear HB1 HO1
      by_cases k1 : x.kd = 1
      · have HD : Hid (mayC l k x ↔ x.ms = 0) := mayS_1 k1
        have d1 : (x.kd == 1) = true := by simp [k1]
        clear k1 hs2
        by_cases hm : x.ms = 0
        · have d2 : (x.ms != 0) = false := by simp [hm]
          have HR := HO2.out (HD.out.2 hm)
          have HR : Hid (okEv procs l (k + 1)) := HR
          clear hm
          go_wp2
          go_roundw
          case rel => exact ⟨k + 1, by omega, by go_num, HR.out, hBn⟩
          case measure => simp [intOf]; omega
        · have d2 : (x.ms != 0) = true := by simp [hm]
          have HR : Hid (goodEv procs l = false) := HB2.out (fun h => hm (HD.out.1 h))
          clear hm
          go_wp2
          go_ret
          exact ⟨ret_bool HR.out.symm, hBn⟩
      have d1 : (x.kd == 1) = false := by simp [k1]
      by_cases k2 : x.kd = 2
      · have HD : Hid (mayC l k x ↔ (1 ≤ x.ms ∧ x.ms ≤ 24) ∧ fnd l 2 x.ms k < 0) := mayS_2 k2
        have d2 : (x.kd == 2) = true := by simp [k2]
        clear k1 k2
        generalize hg : inB x.ms 1 24 = g
        have HG : Hid (inB x.ms 1 24 = g) := hg
        clear hg
        cases g
        · have HR : Hid (goodEv procs l = false) := HB2.out (fun h => by have := HD.out.1 h; have := inB_f.1 HG.out; omega)
          go_wp2_with (go_at_call 37; refine (l1In_any _ _ _ _).mono ?_; rintro r w2 ⟨hr, hw2⟩; rw [HG.out] at hr; subst hr; rw [hw2]; clear hw2 w2)
          go_ret
          exact ⟨ret_bool HR.out.symm, hBn⟩
        · by_cases hf : fnd l 2 x.ms k < 0
          · have hf2 : ¬ (0 ≤ fnd l 2 x.ms k) := by omega
            have HR : Hid (okEv procs l (k + 1)) := HO2.out (HD.out.2 ⟨inB_t.1 HG.out, hf⟩)
            clear HD
            go_wp2_with (first | (go_at_call 37; refine (l1In_any _ _ _ _).mono ?_; rintro r w2 ⟨hr, hw2⟩; rw [HG.out] at hr; subst hr; rw [hw2]; clear hw2 w2) | (go_at_call 38; refine (l7Send_any b off k l x.ms _ hs2 hk hlm).mono ?_; rintro r w3 ⟨rfl, hB3⟩))
            go_roundw
            case rel => exact ⟨k + 1, by omega, by go_num, HR.out, hBn.trans (hB3.mono hBn.size)⟩
            case measure => simp [intOf]; omega
          · have hf2 : 0 ≤ fnd l 2 x.ms k := by omega
            have HR : Hid (goodEv procs l = false) := HB2.out (fun h => hf (HD.out.1 h).2)
            clear HD
            go_wp2_with (first | (go_at_call 37; refine (l1In_any _ _ _ _).mono ?_; rintro r w2 ⟨hr, hw2⟩; rw [HG.out] at hr; subst hr; rw [hw2]; clear hw2 w2) | (go_at_call 38; refine (l7Send_any b off k l x.ms _ hs2 hk hlm).mono ?_; rintro r w3 ⟨rfl, hB3⟩))
            go_ret
            exact ⟨ret_bool HR.out.symm, hBn.trans (hB3.mono hBn.size)⟩
      have d2 : (x.kd == 2) = false := by simp [k2]
      by_cases k3 : x.kd = 3
      · have HD : Hid (mayC l k x ↔ 0 ≤ fnd l 2 x.ms k ∧ (evA l (fnd l 2 x.ms k).toNat).pr ≠ x.pr ∧ fnd l 3 x.ms k < 0) := mayS_3 k3
        have d3 : (x.kd == 3) = true := by simp [k3]
        have K3 : Hid (x.kd = 3) := k3
        clear k1 k2 k3
        go_wp2_with fail
        refine (l7Send_any b off k l x.ms _ hs2 hk hlm).mono ?_
        rintro r w3 ⟨rfl, hB3⟩
        have hBm := hBn.trans (hB3.mono hBn.size)
        have hs3 := hs2.below hB3
        have e0 : w3.cell? ⟨wr.heap.size, 0, none⟩ = some (.int .i64 x.pr) := (hB3.cell (p := ⟨wr.heap.size, 0, none⟩) (by simp)).trans (by simp [go_sem])
        have e1 : w3.cell? ⟨wr.heap.size, 1, none⟩ = some (.int .i64 x.kd) := (hB3.cell (p := ⟨wr.heap.size, 1, none⟩) (by simp)).trans (by simp [go_sem])
        have e2 : w3.cell? ⟨wr.heap.size, 2, none⟩ = some (.int .i64 x.ms) := (hB3.cell (p := ⟨wr.heap.size, 2, none⟩) (by simp)).trans (by simp [go_sem])
        clear hs2 hB3 hal hBn hB c0 c1 c2
        rcases fnd_cases l 2 x.ms k with hf | ⟨j, hj, hf⟩
        · have HR : Hid (goodEv procs l = false) := HB2.out (fun h => by have := HD.out.1 h; omega)
          rw [hf]
          clear HD hf hs3
          go_wp2
          go_quiet (fail)
          go_wp2
          go_ret
          exact ⟨ret_bool HR.out.symm, below_drewN hBm nq⟩
        · obtain ⟨b', off', e', g0, g1, g2⟩ := hs3 j _ (evA_get (by omega))
          simp only [Option.some.injEq, Addr.mk.injEq, and_true] at e'
          obtain ⟨rfl, rfl⟩ := e'
          have HD2 : Hid (mayC l k x ↔ (evA l j).pr ≠ x.pr ∧ fnd l 3 x.ms k < 0) := by
            show _ ↔ _
            rw [HD.out, hf]
            simp
          rw [hf]
          clear HD hf
          have dj : decide ((j : Int) < 0) = false := decide_eq_false (by omega)
          have hj0 : (0 : Int) ≤ (j : Int) := by omega
          have hj1 : (j : Int) < (l.length : Int) := by omega
          by_cases hp : (evA l j).pr = x.pr
          · have HR : Hid (goodEv procs l = false) := HB2.out (fun h => (HD2.out.1 h).1 hp)
            have dp : ((evA l j).pr == x.pr) = true := by simp [hp]
            clear HD2 hs3 hp
            go_wp2
            go_quiet (fail)
            go_wp2
            go_ret
            exact ⟨ret_bool HR.out.symm, below_drewN hBm nq⟩
          · have dp : ((evA l j).pr == x.pr) = false := by simp [hp]
            have HD3 : Hid (mayC l k x ↔ fnd l 3 x.ms k < 0) := by
              show _ ↔ _
              rw [HD2.out]
              simp [hp]
            clear hp HD2
            go_wp2
            go_quiet (fail)
            have hBq := below_drewN hBm nq
            have hs4 := hs3.below (below_drewN (Below.refl _ _) nq)
            have f0 : (w3.drewN nq).cell? ⟨wr.heap.size, 0, none⟩ = some (.int .i64 x.pr) := by simpa using e0
            have f1 : (w3.drewN nq).cell? ⟨wr.heap.size, 1, none⟩ = some (.int .i64 x.kd) := by simpa using e1
            have f2 : (w3.drewN nq).cell? ⟨wr.heap.size, 2, none⟩ = some (.int .i64 x.ms) := by simpa using e2
            obtain ⟨w4, hw4⟩ : ∃ u, w3.drewN nq = u := ⟨_, rfl⟩
            rw [hw4] at hBq hs4 f0 f1 f2 ⊢
            obtain ⟨B0, hB0⟩ : ∃ n, wr.heap.size = n := ⟨_, rfl⟩
            rw [hB0] at f0 f1 f2 ⊢
            clear hB0
            clear hw4 e0 e1 e2 hs3 hBm g0 g1 g2 dp
            go_wp2
            go_loopw [70] (fun i wi => ∃ q : Nat, q ≤ k ∧ i = .int .i64 q ∧ fnd l 3 x.ms q = -1 ∧ Below w4.heap.size w4 wi) (fun i _ => k - (intOf i).toNat)
            case atStart => exact ⟨0, Nat.zero_le _, rfl, rfl, Below.refl _ _⟩
            case round =>
              obtain ⟨q, hq, rfl, hfq, hBi⟩ := hrel
              have HF : Hid (fnd l 3 x.ms q = -1) := hfq
              clear hfq
              have HBi : Hid (Below w.heap.size w wr) := hBq.trans (hBi.mono hBq.size)
              by_cases hlq : q < k
              · obtain ⟨b', off', e', g0, g1, g2⟩ := (hs4.below hBi) q _ (evA_get (by omega))
                simp only [Option.some.injEq, Addr.mk.injEq, and_true] at e'
                obtain ⟨rfl, rfl⟩ := e'
                obtain ⟨y, hy⟩ : ∃ y, evA l q = y := ⟨_, rfl⟩
                have HY : Hid (evA l q = y) := hy
                rw [hy] at g0 g1 g2
                clear hy hs4
                have k0 := (hBi.cell (p := ⟨B0, 0, none⟩) (lt_of_cell f0)).trans f0
                have k1 := (hBi.cell (p := ⟨B0, 1, none⟩) (lt_of_cell f1)).trans f1
                have k2 := (hBi.cell (p := ⟨B0, 2, none⟩) (lt_of_cell f2)).trans f2
                have hse := eqlEv y x
                have hBj : ∀ o, Below w4.heap.size w4 (wr.alloc o) := fun o => hBi.alloc hBi.size o
                have HBj : Hid (∀ o, Below w.heap.size w (wr.alloc o)) := fun o => hBq.trans ((hBj o).mono hBq.size)
                have lk := lt_of_cell k0
                have lg := lt_of_cell g0
                by_cases hh : y.kd = 3 ∧ y.ms = x.ms
                · have HR : Hid (goodEv procs l = false) := HB2.out (fun h => by
                    have h1 := HD3.out.1 h
                    rw [fnd_hit HF.out (by rw [HY.out]; exact hh) hlq] at h1
                    omega)
                  have d4 : (y.kd == 3) = true := by simp [hh.1]
                  have d5 : (y.ms == x.ms) = true := by simp [hh.2]
                  clear hh
                  cases hxx : (y.pr == x.pr && y.kd == x.kd && y.ms == x.ms)
                  all_goals
                    rw [hxx] at hse
                    clear hxx
                    go_wp2
                    go_ret
                    exact ⟨ret_bool HR.out.symm, HBj.out _⟩
                · have HR : Hid (fnd l 3 x.ms (q + 1) = -1) := fnd_miss HF.out (by rw [HY.out]; exact hh)
                  have hxx : (y.pr == x.pr && y.kd == x.kd && y.ms == x.ms) = false := by
                    rw [Bool.eq_false_iff]; intro h
                    simp only [Bool.and_eq_true, beq_iff_eq] at h
                    exact hh ⟨h.1.2.trans K3.out, h.2⟩
                  rw [hxx] at hse
                  by_cases h4 : y.kd = 3
                  · have d4 : (y.kd == 3) = true := by simp [h4]
                    have d5 : (y.ms == x.ms) = false := by simp; exact fun h => hh ⟨h4, h⟩
                    clear hh h4 hxx
                    go_wp2
                    go_roundw
                    case rel => exact ⟨q + 1, by omega, by go_num, HR.out, hBj _⟩
                    case measure => simp [intOf]; omega
                  · have d4 : (y.kd == 3) = false := by simp [h4]
                    clear hh h4 hxx
                    go_wp2
                    go_roundw
                    case rel => exact ⟨q + 1, by omega, by go_num, HR.out, hBj _⟩
                    case measure => simp [intOf]; omega
              · obtain rfl : q = k := by omega
                have HR : Hid (okEv procs l (q + 1)) := HO2.out (HD3.out.2 (by have := HF.out; omega))
                go_wp2
                go_roundw
                case rel => exact ⟨q + 1, by omega, by go_num, HR.out, HBi.out⟩
                case measure => simp [intOf]; omega
      · have d3 : (x.kd == 3) = false := by simp [k3]
        have HR : Hid (goodEv procs l = false) := HB2.out (mayS_0 k1 k2 k3)
        clear k1 k2 k3 hs2
        go_wp2
        go_ret
        exact ⟨ret_bool HR.out.symm, hBn⟩
    · obtain rfl : k = l.length := by omega
      clear hs
      generalize hg : inB procs 1 5 = g
      have HG : Hid (inB procs 1 5 = g) := hg
      clear hg
      cases g
      · go_wp2_with (go_at_call 37; refine (l1In_any _ _ _ _).mono ?_; rintro r w2 ⟨hr, hw2⟩; rw [HG.out] at hr; subst hr; rw [hw2]; clear hw2 w2)
        go_ret
        exact ⟨ret_bool (goodEv_f (fun h => by have := inB_f.1 HG.out; omega)).symm, hB⟩
      · go_wp2_with (go_at_call 37; refine (l1In_any _ _ _ _).mono ?_; rintro r w2 ⟨hr, hw2⟩; rw [HG.out] at hr; subst hr; rw [hw2]; clear hw2 w2)
        go_ret
        refine ⟨ret_bool ?_, hB⟩
        have h5 := inB_t.1 HG.out
        by_cases h24 : l.length ≤ 24
        · rw [goodEv_t.2 ⟨HO.out, h5, h24⟩]; simp; omega
        · rw [goodEv_f (fun h => h24 h.2.2)]; simp; omega

end Go.Proofs.YtiabgomeogcpnaaDoor
