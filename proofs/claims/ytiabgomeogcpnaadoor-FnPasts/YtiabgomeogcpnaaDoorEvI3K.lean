/-
  Good events, the program's side: the contract of impl.GoodEvents.
-/
import Derived.Test.YtiabgomeogcpnaaDoorEvI2
namespace Go.Proofs.YtiabgomeogcpnaaDoor
open Go.RowKit

set_option maxRecDepth 100000 in
set_option maxHeartbeats 2000000 in
theorem implGoodEv_any (procs : Int) (a : Option Addr) (l : List Ev) (w : World) (hs : Evs w a l) (hl : l.length ≤ maxLen) {lcap : Nat} (hcap : l.length ≤ lcap := by assumption) :
    Calls Tryd.prog 14 #[.int .i64 procs, .slice a l.length lcap] w fun r w' => r = .returned (.bool (goodEv procs l)) ∧ Below w.heap.size w w' := by
  unfold maxLen at hl
  generalize hg : inB procs 1 5 = g
  have HG : Hid (inB procs 1 5 = g) := hg
  clear hg
  cases g
  · go_enter Tryd.func14, Tryd.ntmps14
    go_wp2_with (go_at_call 25; refine (oneUpToE _ _ _).mono ?_; rintro r w2 ⟨hr, rfl⟩; rw [HG.out] at hr; subst hr)
    go_ret
    exact ⟨ret_bool (goodEv_f (fun h => by have := inB_f.1 HG.out; omega)).symm, Below.refl _ _⟩
  have hp := inB_t.1 HG.out
  have hw1 : IntKind.i64.wrap (procs - 1) = procs - 1 := by simp [IntKind.wrap, IntKind.bits, IntKind.signed]; omega
  by_cases h24 : (24 : Int) < l.length
  · go_enter Tryd.func14, Tryd.ntmps14
    go_wp2_with (go_at_call 25; refine (oneUpToE _ _ _).mono ?_; rintro r w2 ⟨hr, rfl⟩; rw [HG.out] at hr; subst hr)
    go_ret
    exact ⟨ret_bool (goodEv_f (fun h => by omega)).symm, Below.refl _ _⟩
  go_enter Tryd.func14, Tryd.ntmps14
  go_wp2_with (go_at_call 25; refine (oneUpToE _ _ _).mono ?_; rintro r w2 ⟨hr, hw2⟩; rw [HG.out] at hr; subst hr; rw [hw2]; clear hw2 w2)
  go_loopw [17] (fun i wr => ∃ k : Nat, k ≤ l.length ∧ i = .int .i64 k ∧ okEv procs l k ∧ Below w.heap.size w wr) (fun i _ => l.length - (intOf i).toNat)
  case atStart => exact ⟨0, Nat.zero_le _, rfl, fun i hi => absurd hi (Nat.not_lt_zero _), Below.refl _ _⟩
  case round =>
    obtain ⟨k, hk, rfl, hok, hB⟩ := hrel
    have HO : Hid (okEv procs l k) := hok
    clear hok
    by_cases hlt : k < l.length
    · have hs1 := hs.below hB
      obtain ⟨b, off, rfl, c0, c1, c2⟩ := hs1 k _ (evA_get hlt)
      have hmc := mayCome_any (some ⟨b, off, none⟩) lcap k l (evA l k)
      obtain ⟨x, hx⟩ : ∃ x, evA l k = x := ⟨_, rfl⟩
      have HX : Hid (evA l k = x) := hx
      rw [hx] at c0 c1 c2 hmc
      clear hx hs
      have hBn : ∀ o, Below w.heap.size w (wr.alloc o) := fun o => hB.alloc hB.size o
      have hs2 : ∀ o, Evs (wr.alloc o) (some ⟨b, off, none⟩) l := fun o => hs1.below ((Below.refl _ _).alloc (Nat.le_refl _) o)
      have lb := lt_of_cell c0
      generalize hg1 : inB x.pr 0 (procs - 1) = g1
      have HG1 : Hid (inB x.pr 0 (procs - 1) = g1) := hg1
      clear hg1 hs1
      have hk0 : (0 : Int) ≤ (k : Int) := by omega
      have hk1 : (k : Int) ≤ (l.length : Int) := by omega
      have hk1c : (k : Int) ≤ (lcap : Int) := by omega
      cases g1
      · clear hmc
        go_wp2_with fail
        go_quiet ((go_at_call 15; exact Calls.quiet_of_same (within_f _ _ _ HG1.out)))
        go_wp2
        go_ret
        exact ⟨ret_bool (okEv_bad hlt (fun h => by unfold okEv1 at h; rw [HX.out] at h; have := inB_f.1 HG1.out; omega)).symm, below_drewN (hBn _) nq⟩
      · generalize hg2 : decide (mayC l k x) = g2
        have HG2 : Hid (decide (mayC l k x) = g2) := hg2
        clear hg2
        cases g2
        all_goals
          go_wp2_with fail
          go_region_with (first
            | (go_at_call 15; refine (within_any _ _ _).mono ?_; rintro r w2 ⟨hr, rfl⟩; rw [HG1.out] at hr; subst hr)
            | (go_at_call 26; refine (hmc _ ((hs2 _).below (Below.refl _ _).drew) (by omega) (by unfold maxLen; omega)).mono ?_; rintro r w3 ⟨hr, hB3⟩; rw [HG2.out] at hr; subst hr))
        all_goals
          go_wp2
          first
            | (go_ret
               exact ⟨ret_bool (okEv_bad hlt (fun h => by unfold okEv1 at h; rw [HX.out] at h; exact absurd h.2 (by simpa using HG2.out))).symm, (hBn _).drew.trans (hB3.mono (by have := hB.size; simp; omega))⟩)
            | (go_roundw
               case rel => exact ⟨k + 1, by omega, by go_num, okEv_succ HO.out (by unfold okEv1; rw [HX.out]; exact ⟨by have := inB_t.1 HG1.out; omega, by simpa using HG2.out⟩), (hBn _).drew.trans (hB3.mono (by have := hB.size; simp; omega))⟩
               case measure => simp [intOf]; omega)
    · obtain rfl : k = l.length := by omega
      go_wp2
      go_ret
      exact ⟨ret_bool (goodEv_t.2 ⟨HO.out, by omega, by omega⟩).symm, hB⟩

end Go.Proofs.YtiabgomeogcpnaaDoor
