/-
  Good events, the program's side: the contract of impl.mayCome.
-/
import Derived.Test.YtiabgomeogcpnaaDoorEvI
namespace Go.Proofs.YtiabgomeogcpnaaDoor
open Go.RowKit

theorem oneUpToE (n hi : Int) (w : World) : Calls Tryd.prog 25 #[.int .i64 n, .int .i64 hi] w fun e w' => e = .returned (.bool (inB n 1 hi)) ∧ w' = w := by
  by_cases h1 : 1 ≤ n
  · by_cases h2 : n ≤ hi
    · go_enter Tryd.func25, Tryd.ntmps25
      go_wp2
      go_ret
      exact ⟨ret_bool (by rw [inB_t.2 ⟨h1, h2⟩]), rfl⟩
    · go_enter Tryd.func25, Tryd.ntmps25
      go_wp2
      go_ret
      exact ⟨ret_bool (by rw [inB_f.2 (by omega)]), rfl⟩
  · go_enter Tryd.func25, Tryd.ntmps25
    go_wp2
    go_ret
    exact ⟨ret_bool (by rw [inB_f.2 (by omega)]), rfl⟩

theorem within_f (n hi : Int) (w : World) (h : inB n 0 hi = false) : Calls Tryd.prog 15 #[.int .i64 n, .int .i64 hi] w fun e w' => e = .returned (.bool false) ∧ w' = w :=
  (within_any n hi w).mono fun e w' ⟨he, hw⟩ => ⟨he.trans (by rw [h]), hw⟩

theorem mayC_1 {l : List Ev} {i : Nat} {e : Ev} (h : e.kd = 1) : mayC l i e ↔ e.ms = 0 := by unfold mayC; omega
theorem mayC_2 {l : List Ev} {i : Nat} {e : Ev} (h : e.kd = 2) : mayC l i e ↔ (1 ≤ e.ms ∧ e.ms ≤ 24) ∧ fnd l 2 e.ms i < 0 := by unfold mayC; omega
theorem mayC_3 {l : List Ev} {i : Nat} {e : Ev} (h : e.kd = 3) : mayC l i e ↔ 0 ≤ fnd l 2 e.ms i ∧ (evA l (fnd l 2 e.ms i).toNat).pr ≠ e.pr ∧ fnd l 3 e.ms i < 0 := by unfold mayC; omega
theorem mayC_0 {l : List Ev} {i : Nat} {e : Ev} (h1 : e.kd ≠ 1) (h2 : e.kd ≠ 2) (h3 : e.kd ≠ 3) : ¬ mayC l i e := by unfold mayC; omega

set_option maxRecDepth 100000 in
set_option maxHeartbeats 2000000 in
theorem mayCome_any (a : Option Addr) (c n : Nat) (l : List Ev) (e : Ev) (w : World) (hs : Evs w a l) (hn : n ≤ l.length) (hl : n ≤ maxLen) :
    Calls Tryd.prog 26 #[.slice a n c, evV e] w fun r w' => r = .returned (.bool (decide (mayC l n e))) ∧ Below w.heap.size w w' := by
  have hb : Below w.heap.size w (w.alloc (.cells #[.int .i64 e.pr, .int .i64 e.kd, .int .i64 e.ms] 58)) := (Below.refl _ _).alloc (Nat.le_refl _) _
  have hlm : n ≤ 9223372036854775807 := by unfold maxLen at hl; omega
  go_enter Tryd.func26, Tryd.ntmps26
  go_wp2_with fail
  refine (eventWith_any a c n l 2 e.ms _ (hs.below hb) hn hl).mono ?_
  rintro r w1 ⟨rfl, hB1⟩
  have BB := hb.trans (hB1.mono (by simp))
  have hs1 := hs.below BB
  have e0 : w1.cell? ⟨w.heap.size, 0, none⟩ = some (.int .i64 e.pr) := (hB1.cell (p := ⟨w.heap.size, 0, none⟩) (by simp)).trans (by simp [go_sem])
  have e1 : w1.cell? ⟨w.heap.size, 1, none⟩ = some (.int .i64 e.kd) := (hB1.cell (p := ⟨w.heap.size, 1, none⟩) (by simp)).trans (by simp [go_sem])
  have e2 : w1.cell? ⟨w.heap.size, 2, none⟩ = some (.int .i64 e.ms) := (hB1.cell (p := ⟨w.heap.size, 2, none⟩) (by simp)).trans (by simp [go_sem])
  clear hB1 hb hs
  by_cases k1 : e.kd = 1
  · have HD : Hid (mayC l n e ↔ e.ms = 0) := mayC_1 k1
    have d1 : (e.kd == 1) = true := by simp [k1]
    clear k1 hs1
    go_wp2
    go_ret
    exact ⟨ret_bool (by rw [Bool.eq_iff_iff]; simp [HD.out]), BB⟩
  have d1 : (e.kd == 1) = false := by simp [k1]
  by_cases k2 : e.kd = 2
  · have HD : Hid (mayC l n e ↔ (1 ≤ e.ms ∧ e.ms ≤ 24) ∧ fnd l 2 e.ms n < 0) := mayC_2 k2
    have d2 : (e.kd == 2) = true := by simp [k2]
    clear k1 k2 hs1
    generalize hg : inB e.ms 1 24 = g
    have HG : Hid (inB e.ms 1 24 = g) := hg
    clear hg
    cases g
    · go_wp2_with (go_at_call 25; refine (oneUpToE _ _ _).mono ?_; rintro r w2 ⟨hr, rfl⟩; rw [HG.out] at hr; subst hr)
      go_ret
      exact ⟨ret_bool (by rw [Bool.eq_iff_iff]; have := inB_f.1 HG.out; simp [HD.out]; omega), BB⟩
    · go_wp2_with (go_at_call 25; refine (oneUpToE _ _ _).mono ?_; rintro r w2 ⟨hr, rfl⟩; rw [HG.out] at hr; subst hr)
      go_ret
      exact ⟨ret_bool (by rw [Bool.eq_iff_iff]; have := inB_t.1 HG.out; simp [HD.out]; omega), BB⟩
  have d2 : (e.kd == 2) = false := by simp [k2]
  by_cases k3 : e.kd = 3
  · have HD : Hid (mayC l n e ↔ 0 ≤ fnd l 2 e.ms n ∧ (evA l (fnd l 2 e.ms n).toNat).pr ≠ e.pr ∧ fnd l 3 e.ms n < 0) := mayC_3 k3
    have d3 : (e.kd == 3) = true := by simp [k3]
    clear k1 k2 k3
    rcases fnd_cases l 2 e.ms n with hf | ⟨k, hk, hf⟩
    · have HN : Hid (¬ mayC l n e) := fun h => by have := HD.out.1 h; omega
      rw [hf]
      clear HD hf hs1
      go_wp2
      go_quiet (fail)
      go_wp2
      go_ret
      exact ⟨ret_bool (decide_eq_false HN.out).symm, below_drewN BB nq⟩
    · obtain ⟨b, off, rfl, c0, c1, c2⟩ := hs1 k _ (evA_get (by omega))
      have HD2 : Hid (mayC l n e ↔ (evA l k).pr ≠ e.pr ∧ fnd l 3 e.ms n < 0) := by
        show _ ↔ _
        rw [HD.out, hf]
        simp
      rw [hf]
      clear HD hf
      by_cases hp : (evA l k).pr = e.pr
      · have HN : Hid (¬ mayC l n e) := fun h => (HD2.out.1 h).1 hp
        have dp : ((evA l k).pr != e.pr) = false := by simp [hp]
        clear HD2 hs1 hp
        go_wp2
        go_quiet (fail)
        go_wp2
        go_ret
        exact ⟨ret_bool (decide_eq_false HN.out).symm, below_drewN BB nq⟩
      · have dp : ((evA l k).pr != e.pr) = true := by simp [hp]
        have HP : Hid ((evA l k).pr ≠ e.pr) := hp
        clear hp
        go_wp2_with fail
        go_region_with (go_at_call 33; refine (eventWith_any _ c n l 3 e.ms _ (hs1.below (Below.refl _ _).drew) hn hl).mono ?_; rintro r w2 ⟨rfl, hB2⟩)
        all_goals
          go_wp2
          go_ret
          refine ⟨ret_bool ?_, BB.drew.trans (hB2.mono BB.size)⟩
          rw [Bool.eq_iff_iff]
          simp [HD2.out, HP.out]
  · have d3 : (e.kd == 3) = false := by simp [k3]
    have HN : Hid (¬ mayC l n e) := mayC_0 k1 k2 k3
    clear k1 k2 k3 hs1
    go_wp2
    go_ret
    exact ⟨ret_bool (decide_eq_false HN.out).symm, BB⟩

end Go.Proofs.YtiabgomeogcpnaaDoor
