/-
  Groups, the program's side: logs by their epochs and their values, how many rows two logs share. Made by mkcui.py out of GrI1.
-/
import Derived.Test.YtekjpbfmiebigaaDoorRwIM
import Derived.Test.YtekjpbfmiebigaaDoorVot
import Derived.Test.YtekjpbfmiebigaaDoorRwS
import Derived.Deep.RegionHeld3
import Derived.WalkMore
import Derived.Handy
namespace Go.Proofs.YtekjpbfmiebigaaDoor
open Go.RowKit

theorem alRwI (u : World) (o : Obj) : Below u.heap.size u (u.alloc o) := (Below.refl _ _).alloc (Nat.le_refl _) o
theorem stRwI {W a b : World} (h : Below W.heap.size W a) (k : Below a.heap.size a b) : Below W.heap.size W b := h.trans (k.mono h.size)
abbrev rwV (e : Rw) : Value := .agg #[.int .i64 e.epoch, .int .i64 e.val]

theorem dec_beq (a b : Int) : decide (a = b) = (a == b) := by rw [Bool.eq_iff_iff]; simp

theorem within_c (n hi : Int) (b : Bool) (w : World) (h : inB n 0 hi = b) : Calls Tryd.prog 76 #[.int .i64 n, .int .i64 hi] w fun e w' => e = .returned (.bool b) ∧ w' = w := by
  rw [← h]; exact within_any n hi w

theorem termW_any (e : Rw) (w : World) : Calls Tryd.prog 102 #[rwV e] w fun r w' => r = .returned (.int .i64 e.epoch) ∧ Below w.heap.size w w' := by
  have HB : ∀ o, Below w.heap.size w (w.alloc o) := fun o => alRwI w o
  go_enter Tryd.func102, Tryd.ntmps102
  go_wp2
  go_ret
  exact ⟨rfl, HB _⟩

set_option maxRecDepth 100000 in
set_option maxHeartbeats 4000000 in
theorem goodTermsW_any (a : Option Addr) (c : Nat) (l : List Rw) (most : Int) (w : World) (hs : Rws w a l) (hl : l.length ≤ maxLen) :
    Calls Tryd.prog 82 #[.slice a l.length c, .int .i64 most] w fun r w' => r = .returned (.bool (twB l most)) ∧ Below w.heap.size w w' := by
  unfold maxLen at hl
  go_enter Tryd.func82, Tryd.ntmps82
  go_wp2
  go_loopw [5, 10] (fun z i wr => ∃ (k : Nat) (t : Int), k ≤ l.length ∧ i = .int .i64 k ∧ z = .int .i64 t ∧ Hid (leastW l k = t) ∧ Hid (twTo l most k) ∧ Below w.heap.size w wr) (fun _ i _ => l.length - (intOf i).toNat)
  case atStart => exact ⟨0, 0, Nat.zero_le _, rfl, rfl, rfl, (fun i hi => absurd hi (Nat.not_lt_zero _)), Below.refl _ _⟩
  case round =>
    obtain ⟨k, t, hk, rfl, rfl, HT, HO, hB⟩ := hrel
    by_cases hlt : k < l.length
    · obtain ⟨b, off, rfl, c0, c1⟩ := (hs.below hB) k _ (rwA_get hlt)
      obtain ⟨x, hx⟩ : ∃ x, rwA l k = x := ⟨_, rfl⟩
      have HX : Hid (rwA l k = x) := hx
      rw [hx] at c0 c1
      clear hx
      have hki : (k : Int) < (l.length : Int) := by omega
      by_cases h1 : x.epoch < t
      · have HE : Hid (twB l most = false) := twB_bad hlt (fun h => by unfold twOk at h; rw [HX.out, HT.out] at h; omega)
        go_wp2_with fail
        refine (termW_any x _).mono ?_
        rintro r w1 ⟨rfl, hB1⟩
        have BB1 := stRwI (stRwI hB (alRwI _ _)) hB1
        have q0 : w1.cell? ⟨wr.heap.size, 0, none⟩ = some (.int .i64 x.epoch) := celB hB1 (by simp [go_sem])
        have q1 : w1.cell? ⟨wr.heap.size, 1, none⟩ = some (.int .i64 x.val) := celB hB1 (by simp [go_sem])
        clear hB1
        go_wp2
        go_ret
        exact ⟨ret_bool HE.out.symm, BB1⟩
      · by_cases h2 : most < x.epoch
        · have HE : Hid (twB l most = false) := twB_bad hlt (fun h => by unfold twOk at h; rw [HX.out, HT.out] at h; omega)
          go_wp2_with fail
          refine (termW_any x _).mono ?_
          rintro r w1 ⟨rfl, hB1⟩
          have BB1 := stRwI (stRwI hB (alRwI _ _)) hB1
          have q0 : w1.cell? ⟨wr.heap.size, 0, none⟩ = some (.int .i64 x.epoch) := celB hB1 (by simp [go_sem])
          have q1 : w1.cell? ⟨wr.heap.size, 1, none⟩ = some (.int .i64 x.val) := celB hB1 (by simp [go_sem])
          clear hB1
          go_wp2_with fail
          refine (termW_any x _).mono ?_
          rintro r w2 ⟨rfl, hB2⟩
          have BB2 := stRwI BB1 hB2
          replace q0 := celB hB2 q0
          replace q1 := celB hB2 q1
          clear hB2
          go_wp2
          go_ret
          exact ⟨ret_bool HE.out.symm, BB2⟩
        · have HN : Hid (twTo l most (k + 1)) := twTo_succ HO.out (by unfold twOk; rw [HX.out, HT.out]; omega)
          have HL : Hid (leastW l (k + 1) = x.epoch) := by show _ = _; rw [leastW_succ, HX.out]
          go_wp2_with fail
          refine (termW_any x _).mono ?_
          rintro r w1 ⟨rfl, hB1⟩
          have BB1 := stRwI (stRwI hB (alRwI _ _)) hB1
          have q0 : w1.cell? ⟨wr.heap.size, 0, none⟩ = some (.int .i64 x.epoch) := celB hB1 (by simp [go_sem])
          have q1 : w1.cell? ⟨wr.heap.size, 1, none⟩ = some (.int .i64 x.val) := celB hB1 (by simp [go_sem])
          clear hB1
          go_wp2_with fail
          refine (termW_any x _).mono ?_
          rintro r w2 ⟨rfl, hB2⟩
          have BB2 := stRwI BB1 hB2
          replace q0 := celB hB2 q0
          replace q1 := celB hB2 q1
          clear hB2
          go_wp2_with fail
          refine (termW_any x _).mono ?_
          rintro r w3 ⟨rfl, hB3⟩
          have BB3 := stRwI BB2 hB3
          replace q0 := celB hB3 q0
          replace q1 := celB hB3 q1
          clear hB3
          go_wp2
          go_roundw
          case rel => exact ⟨k + 1, x.epoch, by omega, by go_num, rfl, HL.out, HN.out, BB3⟩
          case measure => simp [intOf]; omega
    · obtain rfl : k = l.length := by omega
      have HE : Hid (twB l most = true) := twB_done HO.out
      go_wp2
      go_ret
      exact ⟨ret_bool HE.out.symm, hB⟩

theorem goodTermsW_c (a : Option Addr) (c : Nat) (l : List Rw) (most : Int) (w : World) (hs : Rws w a l) (hl : l.length ≤ maxLen) (b : Bool) (h : twB l most = b) :
    Calls Tryd.prog 82 #[.slice a l.length c, .int .i64 most] w fun r w' => r = .returned (.bool b) ∧ Below w.heap.size w w' := by
  rw [← h]; exact goodTermsW_any a c l most w hs hl

theorem litW_any (e : Rw) (w : World) : Calls Tryd.prog 84 #[rwV e] w fun r w' => r = .returned (.bool (rvalB e)) ∧ Below w.heap.size w w' := by
  have HB : ∀ o, Below w.heap.size w (w.alloc o) := fun o => alRwI w o
  cases g : inB e.val 0 99
  all_goals
    have HE : Hid (rvalB e = _) := g
    go_enter Tryd.func84, Tryd.ntmps84
    go_wp2_with (go_at_call 76; refine (within_c _ _ _ _ (by first | exact g)).mono ?_; rintro e w' ⟨rfl, rfl⟩)
    go_ret
    exact ⟨ret_bool HE.out.symm, HB _⟩

theorem litW_c (e : Rw) (w : World) (b : Bool) (h : rvalB e = b) : Calls Tryd.prog 84 #[rwV e] w fun r w' => r = .returned (.bool b) ∧ Below w.heap.size w w' := by
  rw [← h]; exact litW_any e w

abbrev litRw : Value := .func (.func 84) #[] #[]

set_option maxRecDepth 100000 in
set_option maxHeartbeats 4000000 in
theorem allOfW_any (a : Option Addr) (c : Nat) (l : List Rw) (w : World) (hs : Rws w a l) (hl : l.length ≤ maxLen) :
    Calls Tryd.prog 83 #[.slice a l.length c, litRw] w fun r w' => r = .returned (.bool (l.all rvalB)) ∧ Below w.heap.size w w' := by
  unfold maxLen at hl
  go_enter Tryd.func83, Tryd.ntmps83
  go_wp2
  go_loopw [9] (fun i wr => ∃ k : Nat, k ≤ l.length ∧ i = .int .i64 k ∧ Hid (allTo (rvalB) l k) ∧ Below w.heap.size w wr) (fun i _ => l.length - (intOf i).toNat)
  case atStart => exact ⟨0, Nat.zero_le _, rfl, allTo_zero _ _, Below.refl _ _⟩
  case round =>
    obtain ⟨k, hk, rfl, HO, hB⟩ := hrel
    by_cases hlt : k < l.length
    · obtain ⟨x, hkb⟩ := getRw hlt
      obtain ⟨b, off, rfl, c0, c1⟩ := (hs.below hB) k _ hkb
      have HK : Hid (l[k]? = some x) := hkb
      have hki : (k : Int) < (l.length : Int) := by omega
      clear hkb
      cases g : (rvalB) x with
      | false =>
        have HE : Hid (l.all (rvalB) = false) := all_bad HK.out g
        go_wp2_with fail
        refine (litW_c x _ _ g).mono ?_
        rintro r w1 ⟨rfl, hB1⟩
        have BB := stRwI (stRwI hB (alRwI _ _)) hB1
        go_wp2
        go_ret
        exact ⟨ret_bool HE.out.symm, BB⟩
      | true =>
        have HN : Hid (allTo (rvalB) l (k + 1)) := allTo_succ HO.out HK.out g
        go_wp2_with fail
        refine (litW_c x _ _ g).mono ?_
        rintro r w1 ⟨rfl, hB1⟩
        have BB := stRwI (stRwI hB (alRwI _ _)) hB1
        go_wp2
        go_roundw
        case rel => exact ⟨k + 1, by omega, by go_num, HN.out, BB⟩
        case measure => simp [intOf]; omega
    · obtain rfl : k = l.length := by omega
      have HE : Hid (l.all (rvalB) = true) := all_done HO.out
      go_wp2
      go_ret
      exact ⟨ret_bool HE.out.symm, hB⟩

theorem allOfW_c (a : Option Addr) (c : Nat) (l : List Rw) (w : World) (hs : Rws w a l) (hl : l.length ≤ maxLen) (b : Bool) (h : l.all rvalB = b) :
    Calls Tryd.prog 83 #[.slice a l.length c, litRw] w fun r w' => r = .returned (.bool b) ∧ Below w.heap.size w w' := by
  rw [← h]; exact allOfW_any a c l w hs hl

set_option maxRecDepth 100000 in
set_option maxHeartbeats 4000000 in
theorem goodRows_any (a : Option Addr) (c : Nat) (l : List Rw) (most : Int) (w : World) (hs : Rws w a l) (hl : l.length ≤ maxLen) :
    Calls Tryd.prog 80 #[.slice a l.length c, .int .i64 most] w fun r w' => r = .returned (.bool (rlogB l most)) ∧ Below w.heap.size w w' := by
  have hl' := hl
  unfold maxLen at hl'
  cases g1 : decide (l.length ≤ 30) with
  | false =>
    have HE : Hid (rlogB l most = false) := by show _ = _; rw [rlogB_is, g1]; simp
    have g1' : (30 : Int) < (l.length : Int) := by have := of_decide_eq_false g1; omega
    clear g1
    go_enter Tryd.func80, Tryd.ntmps80
    go_wp2_with (first | (go_at_call 82; refine (goodTermsW_c _ _ _ _ _ hs hl _ g2).mono ?_; rintro r w1 ⟨rfl, hB1⟩; have hs1 := hs.below hB1) | (go_at_call 83; refine (allOfW_c _ _ _ _ hs1 hl _ g3).mono ?_; rintro r w2 ⟨rfl, hB2⟩; have hB3 := stRwI hB1 hB2))
    go_ret
    exact ⟨ret_bool HE.out.symm, by first | exact hB3 | exact hB1 | exact Below.refl _ _⟩
  | true =>
    cases g2 : twB l most with
    | false =>
      have HE : Hid (rlogB l most = false) := by show _ = _; rw [rlogB_is, g1, g2]; simp
      have g1' : (l.length : Int) ≤ 30 := by have := of_decide_eq_true g1; omega
      clear g1
      go_enter Tryd.func80, Tryd.ntmps80
      go_wp2_with (first | (go_at_call 82; refine (goodTermsW_c _ _ _ _ _ hs hl _ g2).mono ?_; rintro r w1 ⟨rfl, hB1⟩; have hs1 := hs.below hB1) | (go_at_call 83; refine (allOfW_c _ _ _ _ hs1 hl _ g3).mono ?_; rintro r w2 ⟨rfl, hB2⟩; have hB3 := stRwI hB1 hB2))
      go_ret
      exact ⟨ret_bool HE.out.symm, by first | exact hB3 | exact hB1 | exact Below.refl _ _⟩
    | true =>
      cases g3 : l.all rvalB with
      | false =>
        have HE : Hid (rlogB l most = false) := by show _ = _; rw [rlogB_is, g1, g2, g3]; simp
        have g1' : (l.length : Int) ≤ 30 := by have := of_decide_eq_true g1; omega
        clear g1
        go_enter Tryd.func80, Tryd.ntmps80
        go_wp2_with (first | (go_at_call 82; refine (goodTermsW_c _ _ _ _ _ hs hl _ g2).mono ?_; rintro r w1 ⟨rfl, hB1⟩; have hs1 := hs.below hB1) | (go_at_call 83; refine (allOfW_c _ _ _ _ hs1 hl _ g3).mono ?_; rintro r w2 ⟨rfl, hB2⟩; have hB3 := stRwI hB1 hB2))
        go_ret
        exact ⟨ret_bool HE.out.symm, by first | exact hB3 | exact hB1 | exact Below.refl _ _⟩
      | true =>
        have HE : Hid (rlogB l most = true) := by show _ = _; rw [rlogB_is, g1, g2, g3]; simp
        have g1' : (l.length : Int) ≤ 30 := by have := of_decide_eq_true g1; omega
        clear g1
        go_enter Tryd.func80, Tryd.ntmps80
        go_wp2_with (first | (go_at_call 82; refine (goodTermsW_c _ _ _ _ _ hs hl _ g2).mono ?_; rintro r w1 ⟨rfl, hB1⟩; have hs1 := hs.below hB1) | (go_at_call 83; refine (allOfW_c _ _ _ _ hs1 hl _ g3).mono ?_; rintro r w2 ⟨rfl, hB2⟩; have hB3 := stRwI hB1 hB2))
        go_ret
        exact ⟨ret_bool HE.out.symm, by first | exact hB3 | exact hB1 | exact Below.refl _ _⟩

theorem goodRows_c (a : Option Addr) (c : Nat) (l : List Rw) (most : Int) (w : World) (hs : Rws w a l) (hl : l.length ≤ maxLen) (b : Bool) (h : rlogB l most = b) :
    Calls Tryd.prog 80 #[.slice a l.length c, .int .i64 most] w fun r w' => r = .returned (.bool b) ∧ Below w.heap.size w w' := by
  rw [← h]; exact goodRows_any a c l most w hs hl

set_option maxRecDepth 100000 in
set_option maxHeartbeats 4000000 in
theorem sharedFirst_any (a a2 : Option Addr) (c c2 : Nat) (xs ys : List Rw) (w : World) (hx : Rws w a xs) (hy : Rws w a2 ys) (hl : xs.length ≤ maxLen) :
    Calls Tryd.prog 74 #[.slice a xs.length c, .slice a2 ys.length c2] w fun e w' => e = .returned (.int .i64 (sameN xs ys : Int)) ∧ ∃ m, w' = w.drewN m := by
  have hgd := rwGuard
  unfold maxLen at hl
  go_enter Tryd.func74, Tryd.ntmps74
  go_wp2
  go_loopw [5] (fun i wr => ∃ k m : Nat, k ≤ xs.length ∧ k ≤ ys.length ∧ i = .int .i64 k ∧ Hid (sameN xs ys = k + sameN (xs.drop k) (ys.drop k)) ∧ wr = w.drewN m) (fun i _ => xs.length - (intOf i).toNat)
  case atStart => exact ⟨0, 0, Nat.zero_le _, Nat.zero_le _, rfl, by show _ = _; simp, rfl⟩
  case round =>
    obtain ⟨k, m, hk, hk2, rfl, HS, rfl⟩ := hrel
    by_cases hlt : k < xs.length
    · obtain ⟨x, hkx⟩ := getRw hlt
      obtain ⟨kb, ob, rfl, x0, x1⟩ := hx k x hkx
      have hki : (k : Int) < (xs.length : Int) := by omega
      by_cases hlt2 : k < ys.length
      · obtain ⟨y, hky⟩ := getRw hlt2
        obtain ⟨kb2, ob2, rfl, y0, y1⟩ := hy k y hky
        have hkj : (k : Int) < (ys.length : Int) := by omega
        have hse := rwEq_run x.epoch x.val y.epoch y.val
        by_cases hxy : x = y
        · subst hxy
          have HN : Hid (sameN xs ys = (k + 1) + sameN (xs.drop (k + 1)) (ys.drop (k + 1))) := by show _ = _; rw [HS.out, same_step hkx hky]; omega
          rw [show (decide (x.epoch = x.epoch) && decide (x.val = x.val)) = true by simp] at hse
          clear hx hy hkx hky HS
          go_wp2_with fail
          go_quiet (fail)
          go_wp2
          go_roundw
          case rel => exact ⟨k + 1, m + nq, by omega, by omega, by go_num, HN.out, by simp⟩
          case measure => simp [intOf]; omega
        · have HN : Hid (sameN xs ys = k) := by show _ = _; rw [HS.out, same_stop hkx hky hxy]; rfl
          rw [rwDec hxy] at hse
          clear hx hy hkx hky HS hxy
          go_wp2_with fail
          go_quiet (fail)
          go_wp2
          go_ret
          exact ⟨ret_int (by rw [HN.out]), m + nq, by simp⟩
      · have HN : Hid (sameN xs ys = k) := by show _ = _; rw [HS.out, same_end2 (by omega)]; rfl
        have hkj : (ys.length : Int) ≤ (k : Int) := by omega
        clear hx hy hkx HS
        go_wp2_with fail
        go_quiet (fail)
        go_wp2
        go_ret
        exact ⟨ret_int (by rw [HN.out]), m + nq, by simp⟩
    · have HN : Hid (sameN xs ys = k) := by show _ = _; rw [HS.out, same_end1 (by omega)]; rfl
      have hkj : (xs.length : Int) ≤ (k : Int) := by omega
      clear hx hy HS
      go_wp2_with fail
      go_quiet (fail)
      go_wp2
      go_ret
      exact ⟨ret_int (by rw [HN.out]), m + nq, by simp⟩

theorem sharedFirst_c (a a2 : Option Addr) (c c2 : Nat) (xs ys : List Rw) (n : Nat) (w : World) (hx : Rws w a xs) (hy : Rws w a2 ys) (hl : xs.length ≤ maxLen) (h : sameN xs ys = n) :
    Calls Tryd.prog 74 #[.slice a xs.length c, .slice a2 ys.length c2] w fun e w' => e = .returned (.int .i64 (n : Int)) ∧ ∃ m, w' = w.drewN m := by
  rw [← h]; exact sharedFirst_any a a2 c c2 xs ys w hx hy hl

end Go.Proofs.YtekjpbfmiebigaaDoor
