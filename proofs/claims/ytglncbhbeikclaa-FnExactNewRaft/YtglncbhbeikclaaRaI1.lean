/-
  Rafts, the program's side: logs by their terms and their values, entries of letters. Made by mkrai.py.
-/
import Derived.Test.YtglncbhbeikclaaRaIM
import Derived.Test.YtglncbhbeikclaaVot
import Derived.Deep.RegionHeld3
import Derived.WalkMore
import Derived.Handy
namespace Go.Proofs.Ytglncbhbeikclaa
open Go.RowKit

abbrev enV (e : En) : Value := .agg #[.int .i64 e.term, .int .i64 e.val]
abbrev peV (p : Pe) (r2 : Option Addr) (k2 : Nat) (r4 : Option Addr) (k4 : Nat) : Value := .agg #[.int .i64 p.term, .bool p.leads, .slice r2 p.log.length k2, .int .i64 p.commit, .slice r4 p.mat.length k4]
abbrev maV (m : Ma) (r6 : Option Addr) (k6 : Nat) : Value := .agg #[.bool m.reply, .int .i64 m.fr, .int .i64 m.to, .int .i64 m.term, .int .i64 m.prev, .int .i64 m.pterm, .slice r6 m.entry.length k6, .int .i64 m.commit, .int .i64 m.mat]

theorem dec_beq (a b : Int) : decide (a = b) = (a == b) := by rw [Bool.eq_iff_iff]; simp

theorem within_c (n hi : Int) (b : Bool) (w : World) (h : inB n 0 hi = b) : Calls Try.prog 61 #[.int .i64 n, .int .i64 hi] w fun e w' => e = .returned (.bool b) ∧ w' = w := by
  rw [← h]; exact within_any n hi w

theorem oneUpTo_c (n hi : Int) (b : Bool) (w : World) (h : inB n 1 hi = b) : Calls Try.prog 36 #[.int .i64 n, .int .i64 hi] w fun e w' => e = .returned (.bool b) ∧ w' = w := by
  rw [← h]; exact oneUpTo_any n hi w

theorem term_any (e : En) (w : World) : Calls Try.prog 94 #[enV e] w fun r w' => r = .returned (.int .i64 e.term) ∧ Below w.heap.size w w' := by
  have HB : ∀ o, Below w.heap.size w (w.alloc o) := fun o => alRa w o
  go_enter Try.func94, Try.ntmps94
  go_wp2
  go_ret
  exact ⟨rfl, HB _⟩

set_option maxRecDepth 100000 in
set_option maxHeartbeats 4000000 in
theorem goodTerms_any (a : Option Addr) (c : Nat) (l : List En) (most : Int) (w : World) (hs : Ens w a l) (hl : l.length ≤ maxLen) :
    Calls Try.prog 71 #[.slice a l.length c, .int .i64 most] w fun r w' => r = .returned (.bool (trB l most)) ∧ Below w.heap.size w w' := by
  unfold maxLen at hl
  go_enter Try.func71, Try.ntmps71
  go_wp2
  go_loopw [5, 10] (fun z i wr => ∃ (k : Nat) (t : Int), k ≤ l.length ∧ i = .int .i64 k ∧ z = .int .i64 t ∧ Hid (leastT l k = t) ∧ Hid (trTo l most k) ∧ Below w.heap.size w wr) (fun _ i _ => l.length - (intOf i).toNat)
  case atStart => exact ⟨0, 0, Nat.zero_le _, rfl, rfl, rfl, (fun i hi => absurd hi (Nat.not_lt_zero _)), Below.refl _ _⟩
  case round =>
    obtain ⟨k, t, hk, rfl, rfl, HT, HO, hB⟩ := hrel
    by_cases hlt : k < l.length
    · obtain ⟨b, off, rfl, c0, c1⟩ := (hs.below hB) k _ (enA_get hlt)
      obtain ⟨x, hx⟩ : ∃ x, enA l k = x := ⟨_, rfl⟩
      have HX : Hid (enA l k = x) := hx
      rw [hx] at c0 c1
      clear hx
      have hki : (k : Int) < (l.length : Int) := by omega
      by_cases h1 : x.term < t
      · have HE : Hid (trB l most = false) := trB_bad hlt (fun h => by unfold trOk at h; rw [HX.out, HT.out] at h; omega)
        go_wp2_with fail
        refine (term_any x _).mono ?_
        rintro r w1 ⟨rfl, hB1⟩
        have BB1 := stRa (stRa hB (alRa _ _)) hB1
        have q0 : w1.cell? ⟨wr.heap.size, 0, none⟩ = some (.int .i64 x.term) := celB hB1 (by simp [go_sem])
        have q1 : w1.cell? ⟨wr.heap.size, 1, none⟩ = some (.int .i64 x.val) := celB hB1 (by simp [go_sem])
        clear hB1
        go_wp2
        go_ret
        exact ⟨ret_bool HE.out.symm, BB1⟩
      · by_cases h2 : most < x.term
        · have HE : Hid (trB l most = false) := trB_bad hlt (fun h => by unfold trOk at h; rw [HX.out, HT.out] at h; omega)
          go_wp2_with fail
          refine (term_any x _).mono ?_
          rintro r w1 ⟨rfl, hB1⟩
          have BB1 := stRa (stRa hB (alRa _ _)) hB1
          have q0 : w1.cell? ⟨wr.heap.size, 0, none⟩ = some (.int .i64 x.term) := celB hB1 (by simp [go_sem])
          have q1 : w1.cell? ⟨wr.heap.size, 1, none⟩ = some (.int .i64 x.val) := celB hB1 (by simp [go_sem])
          clear hB1
          go_wp2_with fail
          refine (term_any x _).mono ?_
          rintro r w2 ⟨rfl, hB2⟩
          have BB2 := stRa BB1 hB2
          replace q0 := celB hB2 q0
          replace q1 := celB hB2 q1
          clear hB2
          go_wp2
          go_ret
          exact ⟨ret_bool HE.out.symm, BB2⟩
        · have HN : Hid (trTo l most (k + 1)) := trTo_succ HO.out (by unfold trOk; rw [HX.out, HT.out]; omega)
          have HL : Hid (leastT l (k + 1) = x.term) := by show _ = _; rw [leastT_succ, HX.out]
          go_wp2_with fail
          refine (term_any x _).mono ?_
          rintro r w1 ⟨rfl, hB1⟩
          have BB1 := stRa (stRa hB (alRa _ _)) hB1
          have q0 : w1.cell? ⟨wr.heap.size, 0, none⟩ = some (.int .i64 x.term) := celB hB1 (by simp [go_sem])
          have q1 : w1.cell? ⟨wr.heap.size, 1, none⟩ = some (.int .i64 x.val) := celB hB1 (by simp [go_sem])
          clear hB1
          go_wp2_with fail
          refine (term_any x _).mono ?_
          rintro r w2 ⟨rfl, hB2⟩
          have BB2 := stRa BB1 hB2
          replace q0 := celB hB2 q0
          replace q1 := celB hB2 q1
          clear hB2
          go_wp2_with fail
          refine (term_any x _).mono ?_
          rintro r w3 ⟨rfl, hB3⟩
          have BB3 := stRa BB2 hB3
          replace q0 := celB hB3 q0
          replace q1 := celB hB3 q1
          clear hB3
          go_wp2
          go_roundw
          case rel => exact ⟨k + 1, x.term, by omega, by go_num, rfl, HL.out, HN.out, BB3⟩
          case measure => simp [intOf]; omega
    · obtain rfl : k = l.length := by omega
      have HE : Hid (trB l most = true) := trB_done HO.out
      go_wp2
      go_ret
      exact ⟨ret_bool HE.out.symm, hB⟩

theorem goodTerms_c (a : Option Addr) (c : Nat) (l : List En) (most : Int) (w : World) (hs : Ens w a l) (hl : l.length ≤ maxLen) (b : Bool) (h : trB l most = b) :
    Calls Try.prog 71 #[.slice a l.length c, .int .i64 most] w fun r w' => r = .returned (.bool b) ∧ Below w.heap.size w w' := by
  rw [← h]; exact goodTerms_any a c l most w hs hl

theorem goodValue_any (e : En) (w : World) : Calls Try.prog 73 #[enV e] w fun r w' => r = .returned (.bool (valB e)) ∧ Below w.heap.size w w' := by
  have HB : ∀ o, Below w.heap.size w (w.alloc o) := fun o => alRa w o
  cases g : inB e.val 0 99
  all_goals
    have HE : Hid (valB e = _) := g
    go_enter Try.func73, Try.ntmps73
    go_wp2_with (go_at_call 61; refine (within_c _ _ _ _ (by first | exact g)).mono ?_; rintro e w' ⟨rfl, rfl⟩)
    go_ret
    exact ⟨ret_bool HE.out.symm, HB _⟩

theorem goodValue_c (e : En) (w : World) (b : Bool) (h : valB e = b) : Calls Try.prog 73 #[enV e] w fun r w' => r = .returned (.bool b) ∧ Below w.heap.size w w' := by
  rw [← h]; exact goodValue_any e w

abbrev litV : Value := .func (.func 73) #[] #[]

set_option maxRecDepth 100000 in
set_option maxHeartbeats 4000000 in
theorem allOfV_any (a : Option Addr) (c : Nat) (l : List En) (w : World) (hs : Ens w a l) (hl : l.length ≤ maxLen) :
    Calls Try.prog 72 #[.slice a l.length c, litV] w fun r w' => r = .returned (.bool (l.all valB)) ∧ Below w.heap.size w w' := by
  unfold maxLen at hl
  go_enter Try.func72, Try.ntmps72
  go_wp2
  go_loopw [9] (fun i wr => ∃ k : Nat, k ≤ l.length ∧ i = .int .i64 k ∧ Hid (allTo (valB) l k) ∧ Below w.heap.size w wr) (fun i _ => l.length - (intOf i).toNat)
  case atStart => exact ⟨0, Nat.zero_le _, rfl, allTo_zero _ _, Below.refl _ _⟩
  case round =>
    obtain ⟨k, hk, rfl, HO, hB⟩ := hrel
    by_cases hlt : k < l.length
    · obtain ⟨x, hkb⟩ := getEn hlt
      obtain ⟨b, off, rfl, c0, c1⟩ := (hs.below hB) k _ hkb
      have HK : Hid (l[k]? = some x) := hkb
      have hki : (k : Int) < (l.length : Int) := by omega
      clear hkb
      cases g : (valB) x with
      | false =>
        have HE : Hid (l.all (valB) = false) := all_bad HK.out g
        go_wp2_with fail
        refine (goodValue_c x _ _ g).mono ?_
        rintro r w1 ⟨rfl, hB1⟩
        have BB := stRa (stRa hB (alRa _ _)) hB1
        go_wp2
        go_ret
        exact ⟨ret_bool HE.out.symm, BB⟩
      | true =>
        have HN : Hid (allTo (valB) l (k + 1)) := allTo_succ HO.out HK.out g
        go_wp2_with fail
        refine (goodValue_c x _ _ g).mono ?_
        rintro r w1 ⟨rfl, hB1⟩
        have BB := stRa (stRa hB (alRa _ _)) hB1
        go_wp2
        go_roundw
        case rel => exact ⟨k + 1, by omega, by go_num, HN.out, BB⟩
        case measure => simp [intOf]; omega
    · obtain rfl : k = l.length := by omega
      have HE : Hid (l.all (valB) = true) := all_done HO.out
      go_wp2
      go_ret
      exact ⟨ret_bool HE.out.symm, hB⟩

theorem allOfV_c (a : Option Addr) (c : Nat) (l : List En) (w : World) (hs : Ens w a l) (hl : l.length ≤ maxLen) (b : Bool) (h : l.all valB = b) :
    Calls Try.prog 72 #[.slice a l.length c, litV] w fun r w' => r = .returned (.bool b) ∧ Below w.heap.size w w' := by
  rw [← h]; exact allOfV_any a c l w hs hl

set_option maxRecDepth 100000 in
set_option maxHeartbeats 4000000 in
theorem goodRaftLog_any (a : Option Addr) (c : Nat) (l : List En) (most : Int) (w : World) (hs : Ens w a l) (hl : l.length ≤ maxLen) :
    Calls Try.prog 58 #[.slice a l.length c, .int .i64 most] w fun r w' => r = .returned (.bool (logB l most)) ∧ Below w.heap.size w w' := by
  have hl' := hl
  unfold maxLen at hl'
  cases g1 : decide (l.length ≤ 30) with
  | false =>
    have HE : Hid (logB l most = false) := by show _ = _; rw [logB_is, g1]; simp
    have g1' : (30 : Int) < (l.length : Int) := by have := of_decide_eq_false g1; omega
    clear g1
    go_enter Try.func58, Try.ntmps58
    go_wp2_with (first | (go_at_call 71; refine (goodTerms_c _ _ _ _ _ hs hl _ g2).mono ?_; rintro r w1 ⟨rfl, hB1⟩; have hs1 := hs.below hB1) | (go_at_call 72; refine (allOfV_c _ _ _ _ hs1 hl _ g3).mono ?_; rintro r w2 ⟨rfl, hB2⟩; have hB3 := stRa hB1 hB2))
    go_ret
    exact ⟨ret_bool HE.out.symm, by first | exact hB3 | exact hB1 | exact Below.refl _ _⟩
  | true =>
    cases g2 : trB l most with
    | false =>
      have HE : Hid (logB l most = false) := by show _ = _; rw [logB_is, g1, g2]; simp
      have g1' : (l.length : Int) ≤ 30 := by have := of_decide_eq_true g1; omega
      clear g1
      go_enter Try.func58, Try.ntmps58
      go_wp2_with (first | (go_at_call 71; refine (goodTerms_c _ _ _ _ _ hs hl _ g2).mono ?_; rintro r w1 ⟨rfl, hB1⟩; have hs1 := hs.below hB1) | (go_at_call 72; refine (allOfV_c _ _ _ _ hs1 hl _ g3).mono ?_; rintro r w2 ⟨rfl, hB2⟩; have hB3 := stRa hB1 hB2))
      go_ret
      exact ⟨ret_bool HE.out.symm, by first | exact hB3 | exact hB1 | exact Below.refl _ _⟩
    | true =>
      cases g3 : l.all valB with
      | false =>
        have HE : Hid (logB l most = false) := by show _ = _; rw [logB_is, g1, g2, g3]; simp
        have g1' : (l.length : Int) ≤ 30 := by have := of_decide_eq_true g1; omega
        clear g1
        go_enter Try.func58, Try.ntmps58
        go_wp2_with (first | (go_at_call 71; refine (goodTerms_c _ _ _ _ _ hs hl _ g2).mono ?_; rintro r w1 ⟨rfl, hB1⟩; have hs1 := hs.below hB1) | (go_at_call 72; refine (allOfV_c _ _ _ _ hs1 hl _ g3).mono ?_; rintro r w2 ⟨rfl, hB2⟩; have hB3 := stRa hB1 hB2))
        go_ret
        exact ⟨ret_bool HE.out.symm, by first | exact hB3 | exact hB1 | exact Below.refl _ _⟩
      | true =>
        have HE : Hid (logB l most = true) := by show _ = _; rw [logB_is, g1, g2, g3]; simp
        have g1' : (l.length : Int) ≤ 30 := by have := of_decide_eq_true g1; omega
        clear g1
        go_enter Try.func58, Try.ntmps58
        go_wp2_with (first | (go_at_call 71; refine (goodTerms_c _ _ _ _ _ hs hl _ g2).mono ?_; rintro r w1 ⟨rfl, hB1⟩; have hs1 := hs.below hB1) | (go_at_call 72; refine (allOfV_c _ _ _ _ hs1 hl _ g3).mono ?_; rintro r w2 ⟨rfl, hB2⟩; have hB3 := stRa hB1 hB2))
        go_ret
        exact ⟨ret_bool HE.out.symm, by first | exact hB3 | exact hB1 | exact Below.refl _ _⟩

theorem goodRaftLog_c (a : Option Addr) (c : Nat) (l : List En) (most : Int) (w : World) (hs : Ens w a l) (hl : l.length ≤ maxLen) (b : Bool) (h : logB l most = b) :
    Calls Try.prog 58 #[.slice a l.length c, .int .i64 most] w fun r w' => r = .returned (.bool b) ∧ Below w.heap.size w w' := by
  rw [← h]; exact goodRaftLog_any a c l most w hs hl

set_option maxRecDepth 100000 in
set_option maxHeartbeats 4000000 in
theorem litME_any (m : Ma) (e : En) (Bv : Nat) (w : World) (c3 : w.cell? ⟨Bv, 3, none⟩ = some (.int .i64 m.term)) (c5 : w.cell? ⟨Bv, 5, none⟩ = some (.int .i64 m.pterm)) :
    Calls Try.prog 78 #[enV e, .pointer (some ⟨Bv, 0, none⟩)] w fun r w' => r = .returned (.bool (enIn m e)) ∧ Below w.heap.size w w' := by
  have HB : ∀ o, Below w.heap.size w (w.alloc o) := fun o => alRa w o
  have d3 : ∀ o, (w.alloc o).cell? ⟨Bv, 3, none⟩ = some (.int .i64 m.term) := fun o => celB (HB o) c3
  have d5 : ∀ o, (w.alloc o).cell? ⟨Bv, 5, none⟩ = some (.int .i64 m.pterm) := fun o => celB (HB o) c5
  clear c3 c5
  cases g1 : inB e.term 0 m.term with
  | false =>
    have HE : Hid (enIn m e = false) := by show _ = _; rw [enIn, g1]; simp
    go_enter Try.func78, Try.ntmps78
    go_wp2_with (first | (go_at_call 61; refine (within_c _ _ _ _ (by first | exact g1)).mono ?_; rintro e w' ⟨rfl, rfl⟩) | (go_at_call 73; refine (goodValue_c e _ _ g3).mono ?_; rintro r w2 ⟨rfl, hB2⟩; have hB3 := stRa (HB _) hB2))
    go_ret
    exact ⟨ret_bool HE.out.symm, by first | exact hB3 | exact HB _⟩
  | true =>
    cases g2 : decide (m.pterm ≤ e.term) with
    | false =>
      have HE : Hid (enIn m e = false) := by show _ = _; rw [enIn, g1, g2]; simp
      have g2' : e.term < m.pterm := by have := of_decide_eq_false g2; omega
      clear g2
      go_enter Try.func78, Try.ntmps78
      go_wp2_with (first | (go_at_call 61; refine (within_c _ _ _ _ (by first | exact g1)).mono ?_; rintro e w' ⟨rfl, rfl⟩) | (go_at_call 73; refine (goodValue_c e _ _ g3).mono ?_; rintro r w2 ⟨rfl, hB2⟩; have hB3 := stRa (HB _) hB2))
      go_ret
      exact ⟨ret_bool HE.out.symm, by first | exact hB3 | exact HB _⟩
    | true =>
      cases g3 : valB e with
      | false =>
        have HE : Hid (enIn m e = false) := by show _ = _; rw [enIn, g1, g2, g3]; simp
        have g2' : m.pterm ≤ e.term := of_decide_eq_true g2
        clear g2
        go_enter Try.func78, Try.ntmps78
        go_wp2_with (first | (go_at_call 61; refine (within_c _ _ _ _ (by first | exact g1)).mono ?_; rintro e w' ⟨rfl, rfl⟩) | (go_at_call 73; refine (goodValue_c e _ _ g3).mono ?_; rintro r w2 ⟨rfl, hB2⟩; have hB3 := stRa (HB _) hB2))
        go_ret
        exact ⟨ret_bool HE.out.symm, by first | exact hB3 | exact HB _⟩
      | true =>
        have HE : Hid (enIn m e = true) := by show _ = _; rw [enIn, g1, g2, g3]; simp
        have g2' : m.pterm ≤ e.term := of_decide_eq_true g2
        clear g2
        go_enter Try.func78, Try.ntmps78
        go_wp2_with (first | (go_at_call 61; refine (within_c _ _ _ _ (by first | exact g1)).mono ?_; rintro e w' ⟨rfl, rfl⟩) | (go_at_call 73; refine (goodValue_c e _ _ g3).mono ?_; rintro r w2 ⟨rfl, hB2⟩; have hB3 := stRa (HB _) hB2))
        go_ret
        exact ⟨ret_bool HE.out.symm, by first | exact hB3 | exact HB _⟩

theorem litME_c (m : Ma) (e : En) (Bv : Nat) (w : World) (c3 : w.cell? ⟨Bv, 3, none⟩ = some (.int .i64 m.term)) (c5 : w.cell? ⟨Bv, 5, none⟩ = some (.int .i64 m.pterm)) (b : Bool) (h : enIn m e = b) :
    Calls Try.prog 78 #[enV e, .pointer (some ⟨Bv, 0, none⟩)] w fun r w' => r = .returned (.bool b) ∧ Below w.heap.size w w' := by
  rw [← h]; exact litME_any m e Bv w c3 c5

abbrev litM (Bv : Nat) : Value := .func (.func 78) #[] #[.pointer (some ⟨Bv, 0, none⟩)]

set_option maxRecDepth 100000 in
set_option maxHeartbeats 4000000 in
theorem allOfM_any (m : Ma) (Bv : Nat) (a : Option Addr) (c : Nat) (l : List En) (w : World) (hs : Ens w a l) (hl : l.length ≤ maxLen) (c3 : w.cell? ⟨Bv, 3, none⟩ = some (.int .i64 m.term)) (c5 : w.cell? ⟨Bv, 5, none⟩ = some (.int .i64 m.pterm)) :
    Calls Try.prog 72 #[.slice a l.length c, litM Bv] w fun r w' => r = .returned (.bool (l.all (enIn m))) ∧ Below w.heap.size w w' := by
  unfold maxLen at hl
  go_enter Try.func72, Try.ntmps72
  go_wp2
  go_loopw [9] (fun i wr => ∃ k : Nat, k ≤ l.length ∧ i = .int .i64 k ∧ Hid (allTo (enIn m) l k) ∧ Below w.heap.size w wr) (fun i _ => l.length - (intOf i).toNat)
  case atStart => exact ⟨0, Nat.zero_le _, rfl, allTo_zero _ _, Below.refl _ _⟩
  case round =>
    obtain ⟨k, hk, rfl, HO, hB⟩ := hrel
    by_cases hlt : k < l.length
    · obtain ⟨x, hkb⟩ := getEn hlt
      obtain ⟨b, off, rfl, c0, c1⟩ := (hs.below hB) k _ hkb
      have d3 := celB hB c3
      have d5 := celB hB c5
      have HK : Hid (l[k]? = some x) := hkb
      have hki : (k : Int) < (l.length : Int) := by omega
      clear hkb
      cases g : (enIn m) x with
      | false =>
        have HE : Hid (l.all (enIn m) = false) := all_bad HK.out g
        go_wp2_with fail
        refine (litME_c m x Bv _ (celB (alRa _ _) d3) (celB (alRa _ _) d5) _ g).mono ?_
        rintro r w1 ⟨rfl, hB1⟩
        have BB := stRa (stRa hB (alRa _ _)) hB1
        go_wp2
        go_ret
        exact ⟨ret_bool HE.out.symm, BB⟩
      | true =>
        have HN : Hid (allTo (enIn m) l (k + 1)) := allTo_succ HO.out HK.out g
        go_wp2_with fail
        refine (litME_c m x Bv _ (celB (alRa _ _) d3) (celB (alRa _ _) d5) _ g).mono ?_
        rintro r w1 ⟨rfl, hB1⟩
        have BB := stRa (stRa hB (alRa _ _)) hB1
        go_wp2
        go_roundw
        case rel => exact ⟨k + 1, by omega, by go_num, HN.out, BB⟩
        case measure => simp [intOf]; omega
    · obtain rfl : k = l.length := by omega
      have HE : Hid (l.all (enIn m) = true) := all_done HO.out
      go_wp2
      go_ret
      exact ⟨ret_bool HE.out.symm, hB⟩

theorem allOfM_c (m : Ma) (Bv : Nat) (a : Option Addr) (c : Nat) (l : List En) (w : World) (hs : Ens w a l) (hl : l.length ≤ maxLen) (c3 : w.cell? ⟨Bv, 3, none⟩ = some (.int .i64 m.term)) (c5 : w.cell? ⟨Bv, 5, none⟩ = some (.int .i64 m.pterm)) (b : Bool) (h : l.all (enIn m) = b) :
    Calls Try.prog 72 #[.slice a l.length c, litM Bv] w fun r w' => r = .returned (.bool b) ∧ Below w.heap.size w w' := by
  rw [← h]; exact allOfM_any m Bv a c l w hs hl c3 c5

theorem okTA_t {m : Ma} (h : (m.prev == 0) = true) : okTA m = (m.pterm == -1) := by unfold okTA; rw [if_pos (by simpa using h), dec_beq]
theorem okTA_f {m : Ma} (h : (m.prev == 0) = false) : okTA m = inB m.pterm 0 m.term := by unfold okTA; rw [if_neg (by simpa using h)]

set_option maxRecDepth 100000 in
set_option maxHeartbeats 4000000 in
theorem goodTermAhead_any (m : Ma) (r6 : Option Addr) (k6 : Nat) (w : World) :
    Calls Try.prog 69 #[maV m r6 k6] w fun r w' => r = .returned (.bool (okTA m)) ∧ Below w.heap.size w w' := by
  have HB : ∀ o, Below w.heap.size w (w.alloc o) := fun o => alRa w o
  cases g0 : (m.prev == 0) with
  | true =>
    cases g1 : (m.pterm == -1)
    all_goals
      have HE : Hid (okTA m = _) := (okTA_t g0).trans g1
      go_enter Try.func69, Try.ntmps69
      go_wp2
      go_ret
      exact ⟨ret_bool HE.out.symm, HB _⟩
  | false =>
    cases g1 : inB m.pterm 0 m.term
    all_goals
      have HE : Hid (okTA m = _) := (okTA_f g0).trans g1
      go_enter Try.func69, Try.ntmps69
      go_wp2_with (go_at_call 61; refine (within_c _ _ _ _ (by first | exact g1)).mono ?_; rintro e w' ⟨rfl, rfl⟩)
      go_ret
      exact ⟨ret_bool HE.out.symm, HB _⟩

theorem goodTermAhead_c (m : Ma) (r6 : Option Addr) (k6 : Nat) (w : World) (b : Bool) (h : okTA m = b) :
    Calls Try.prog 69 #[maV m r6 k6] w fun r w' => r = .returned (.bool b) ∧ Below w.heap.size w w' := by
  rw [← h]; exact goodTermAhead_any m r6 k6 w

set_option maxRecDepth 100000 in
set_option maxHeartbeats 4000000 in
theorem goodMailEntry_any (m : Ma) (r6 : Option Addr) (k6 : Nat) (w : World) (hs : Ens w r6 m.entry) (hl : m.entry.length ≤ maxLen) :
    Calls Try.prog 70 #[maV m r6 k6] w fun r w' => r = .returned (.bool (okME m)) ∧ Below w.heap.size w w' := by
  have hl' := hl
  unfold maxLen at hl'
  have HB : ∀ o, Below w.heap.size w (w.alloc o) := fun o => alRa w o
  cases g1 : decide (m.entry.length ≤ 1) with
  | false =>
    have HE : Hid (okME m = false) := by show _ = _; rw [okME, g1]; rfl
    have g1' : (1 : Int) < (m.entry.length : Int) := by have := of_decide_eq_false g1; omega
    clear g1
    go_enter Try.func70, Try.ntmps70
    go_wp2_with (go_at_call 72; refine (allOfM_c m w.heap.size _ _ _ _ (hs.below (HB _)) hl (by simp [go_sem]) (by simp [go_sem]) _ g2).mono ?_; rintro r w1 ⟨rfl, hB1⟩; have hB3 := stRa (HB _) hB1)
    go_ret
    exact ⟨ret_bool HE.out.symm, by first | exact hB3 | exact HB _⟩
  | true =>
    cases g2 : m.entry.all (enIn m) with
    | false =>
      have HE : Hid (okME m = false) := by show _ = _; rw [okME, g1, g2]; rfl
      have g1' : (m.entry.length : Int) ≤ 1 := by have := of_decide_eq_true g1; omega
      clear g1
      go_enter Try.func70, Try.ntmps70
      go_wp2_with (go_at_call 72; refine (allOfM_c m w.heap.size _ _ _ _ (hs.below (HB _)) hl (by simp [go_sem]) (by simp [go_sem]) _ g2).mono ?_; rintro r w1 ⟨rfl, hB1⟩; have hB3 := stRa (HB _) hB1)
      go_ret
      exact ⟨ret_bool HE.out.symm, by first | exact hB3 | exact HB _⟩
    | true =>
      have HE : Hid (okME m = true) := by show _ = _; rw [okME, g1, g2]; rfl
      have g1' : (m.entry.length : Int) ≤ 1 := by have := of_decide_eq_true g1; omega
      clear g1
      go_enter Try.func70, Try.ntmps70
      go_wp2_with (go_at_call 72; refine (allOfM_c m w.heap.size _ _ _ _ (hs.below (HB _)) hl (by simp [go_sem]) (by simp [go_sem]) _ g2).mono ?_; rintro r w1 ⟨rfl, hB1⟩; have hB3 := stRa (HB _) hB1)
      go_ret
      exact ⟨ret_bool HE.out.symm, by first | exact hB3 | exact HB _⟩

theorem goodMailEntry_c (m : Ma) (r6 : Option Addr) (k6 : Nat) (w : World) (hs : Ens w r6 m.entry) (hl : m.entry.length ≤ maxLen) (b : Bool) (h : okME m = b) :
    Calls Try.prog 70 #[maV m r6 k6] w fun r w' => r = .returned (.bool b) ∧ Below w.heap.size w w' := by
  rw [← h]; exact goodMailEntry_any m r6 k6 w hs hl

end Go.Proofs.Ytglncbhbeikclaa
