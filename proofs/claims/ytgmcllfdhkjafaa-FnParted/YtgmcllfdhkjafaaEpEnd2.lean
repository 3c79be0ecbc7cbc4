/-
  spec.EndOfEpoch and impl.EndOfEpoch answer the same, 'eeR', at every list of marks and every two numbers.
-/
import Derived.Test.YtgmcllfdhkjafaaEpEnd
namespace Go.Proofs.Ytgmcllfdhkjafaa
open Go.RowKit

def eeOk (m : List Mk) (en ep : Int) : Prop := goodM m = true ∧ (0 ≤ en ∧ en ≤ 30) ∧ (0 < m.length → (mA m (m.length - 1)).st < en) ∧ (0 ≤ ep ∧ ep ≤ 100)
instance (m : List Mk) (en ep : Int) : Decidable (eeOk m en ep) := by unfold eeOk; infer_instance
def eeR (m : List Mk) (en ep : Int) : Int × Int × Bool := if eeOk m en ep then ((endL m en ep).1, (endL m en ep).2, true) else (0, 0, false)

theorem eeR_no {m : List Mk} {en ep : Int} (h : ¬ eeOk m en ep) : eeR m en ep = (0, 0, false) := if_neg h
theorem eeR_yes {m : List Mk} {en ep : Int} (h : eeOk m en ep) : eeR m en ep = ((endL m en ep).1, (endL m en ep).2, true) := if_pos h

def eeV (r : Int × Int × Bool) : Value := .tuple #[.int .i64 r.1, .int .i64 r.2.1, .bool r.2.2]

set_option maxRecDepth 100000 in
set_option maxHeartbeats 2000000 in
theorem specEE_any (a : Option Addr) (c : Nat) (m : List Mk) (en ep : Int) (w : World) (hs : Mks w a m) (hl : m.length ≤ maxLen) :
    Calls Try.prog 25 #[.slice a m.length c, .int .i64 en, .int .i64 ep] w fun e w' => e = .returned (eeV (eeR m en ep)) ∧ Below w.heap.size w w' := by
  have hl' := hl
  unfold maxLen at hl'
  cases hg : goodM m with
  | false =>
    rw [eeR_no (fun h => by simp [eeOk, hg] at h)]
    have HG : Hid (goodM m = false) := hg
    clear hg
    go_enter Try.func25, Try.ntmps25
    go_wp2_with fail
    refine (specGoodM_any _ _ _ _ hs hl).mono ?_
    rintro r w1 ⟨hr, hB1⟩
    rw [HG.out] at hr; subst hr
    go_wp2
    go_ret3
    exact ⟨rfl, hB1⟩
  | true =>
    have hgt := goodM_t.1 hg
    have hlen := hgt.1
    have HRis : Hid (risM m) := risM_of_ok hgt.2
    have HG : Hid (goodM m = true) := hg
    clear hgt
    by_cases h1 : 0 ≤ en ∧ en ≤ 30
    · have b1 : inB en 0 30 = true := inB_t.2 h1
      by_cases h2 : 0 < m.length
      · obtain ⟨k, hk⟩ : ∃ k, m.length = k + 1 := ⟨m.length - 1, by omega⟩
        have HK : Hid (m.length = k + 1) := hk
        have hkl : (m.length : Int) - 1 = (k : Int) := by omega
        have hkn : m.length - 1 = k := by omega
        have hpos : (0 : Int) < (m.length : Int) := by omega
        have hki : (k : Int) < (m.length : Int) := by omega
        have hk2 : k < m.length := by omega
        clear hk
        by_cases h3 : en ≤ (mA m k).st
        · rw [eeR_no (fun h => by have := h.2.2.1 h2; rw [hkn] at this; omega)]
          clear hg
          go_enter Try.func25, Try.ntmps25
          go_wp2_with fail
          refine (specGoodM_any _ _ _ _ hs hl).mono ?_
          rintro r w1 ⟨hr, hB1⟩
          rw [HG.out] at hr; subst hr
          obtain ⟨b, off, rfl, c0, c1⟩ := (hs.below hB1) k _ (mA_get hk2)
          clear hs
          go_wp2_with (go_at_call 33; refine (l1In_any _ _ _ _).mono ?_; rintro e w' ⟨rfl, rfl⟩)
          go_ret3
          exact ⟨rfl, hB1⟩
        · by_cases h4 : 0 ≤ ep ∧ ep ≤ 100
          · have b4 : inB ep 0 100 = true := inB_t.2 h4
            rw [eeR_yes ⟨hg, h1, fun _ => by rw [hkn]; omega, h4⟩]
            clear hg
            go_enter Try.func25, Try.ntmps25
            go_wp2_with fail
            refine (specGoodM_any _ _ _ _ hs hl).mono ?_
            rintro r w1 ⟨hr, hB1⟩
            rw [HG.out] at hr; subst hr
            obtain ⟨b, off, rfl, c0, c1⟩ := (hs.below hB1) k _ (mA_get hk2)
            have hs1 := hs.below hB1
            clear hs
            go_wp2_with (first
              | (go_at_call 33; refine (l1In_any _ _ _ _).mono ?_; rintro e w' ⟨rfl, rfl⟩)
              | (go_at_call 39; refine (specEnd_any _ _ _ _ _ _ hs1 (by omega) HRis.out).mono ?_; rintro e w' ⟨rfl, rfl⟩))
            go_ret3
            exact ⟨rfl, hB1⟩
          · have b4 : inB ep 0 100 = false := inB_f.2 h4
            rw [eeR_no (fun h => h4 h.2.2.2)]
            clear hg
            go_enter Try.func25, Try.ntmps25
            go_wp2_with fail
            refine (specGoodM_any _ _ _ _ hs hl).mono ?_
            rintro r w1 ⟨hr, hB1⟩
            rw [HG.out] at hr; subst hr
            obtain ⟨b, off, rfl, c0, c1⟩ := (hs.below hB1) k _ (mA_get hk2)
            clear hs
            go_wp2_with (go_at_call 33; refine (l1In_any _ _ _ _).mono ?_; rintro e w' ⟨rfl, rfl⟩)
            go_ret3
            exact ⟨rfl, hB1⟩
      · have hz : m.length = 0 := by omega
        have hd : decide ((0 : Int) < (m.length : Int)) = false := decide_eq_false (by omega)
        by_cases h4 : 0 ≤ ep ∧ ep ≤ 100
        · have b4 : inB ep 0 100 = true := inB_t.2 h4
          rw [eeR_yes ⟨hg, h1, fun h => absurd h h2, h4⟩]
          clear hg hz
          go_enter Try.func25, Try.ntmps25
          go_wp2_with fail
          refine (specGoodM_any _ _ _ _ hs hl).mono ?_
          rintro r w1 ⟨hr, hB1⟩
          rw [HG.out] at hr; subst hr
          have hs1 := hs.below hB1
          clear hs
          go_wp2_with (first
            | (go_at_call 33; refine (l1In_any _ _ _ _).mono ?_; rintro e w' ⟨rfl, rfl⟩)
            | (go_at_call 39; refine (specEnd_any _ _ _ _ _ _ hs1 (by omega) HRis.out).mono ?_; rintro e w' ⟨rfl, rfl⟩))
          go_ret3
          exact ⟨rfl, hB1⟩
        · have b4 : inB ep 0 100 = false := inB_f.2 h4
          rw [eeR_no (fun h => h4 h.2.2.2)]
          clear hg hz
          go_enter Try.func25, Try.ntmps25
          go_wp2_with fail
          refine (specGoodM_any _ _ _ _ hs hl).mono ?_
          rintro r w1 ⟨hr, hB1⟩
          rw [HG.out] at hr; subst hr
          clear hs
          go_wp2_with (go_at_call 33; refine (l1In_any _ _ _ _).mono ?_; rintro e w' ⟨rfl, rfl⟩)
          go_ret3
          exact ⟨rfl, hB1⟩
    · have b1 : inB en 0 30 = false := inB_f.2 h1
      rw [eeR_no (fun h => h1 h.2.1)]
      clear hg
      go_enter Try.func25, Try.ntmps25
      go_wp2_with fail
      refine (specGoodM_any _ _ _ _ hs hl).mono ?_
      rintro r w1 ⟨hr, hB1⟩
      rw [HG.out] at hr; subst hr
      clear hs
      go_wp2_with (go_at_call 33; refine (l1In_any _ _ _ _).mono ?_; rintro e w' ⟨rfl, rfl⟩)
      go_ret3
      exact ⟨rfl, hB1⟩

set_option maxRecDepth 100000 in
set_option maxHeartbeats 2000000 in
theorem implEE_any (a : Option Addr) (c : Nat) (m : List Mk) (en ep : Int) (w : World) (hs : Mks w a m) (hl : m.length ≤ maxLen) :
    Calls Try.prog 23 #[.slice a m.length c, .int .i64 en, .int .i64 ep] w fun e w' => e = .returned (eeV (eeR m en ep)) ∧ Below w.heap.size w w' := by
  have hl' := hl
  unfold maxLen at hl'
  cases hg : goodM m with
  | false =>
    rw [eeR_no (fun h => by simp [eeOk, hg] at h)]
    have HG : Hid (goodM m = false) := hg
    clear hg
    go_enter Try.func23, Try.ntmps23
    go_wp2_with fail
    refine (implGoodM_any _ _ _ _ hs hl).mono ?_
    rintro r w1 ⟨hr, hB1⟩
    rw [HG.out] at hr; subst hr
    go_wp2
    go_ret3
    exact ⟨rfl, hB1⟩
  | true =>
    have hgt := goodM_t.1 hg
    have hlen := hgt.1
    have HG : Hid (goodM m = true) := hg
    clear hgt
    by_cases h1 : 0 ≤ en ∧ en ≤ 30
    · have b1 : inB en 0 30 = true := inB_t.2 h1
      by_cases h4 : 0 ≤ ep ∧ ep ≤ 100
      · have b4 : inB ep 0 100 = true := inB_t.2 h4
        by_cases h2 : 0 < m.length
        · obtain ⟨k, hk⟩ : ∃ k, m.length = k + 1 := ⟨m.length - 1, by omega⟩
          have hkl : (m.length : Int) - 1 = (k : Int) := by omega
          have hkn : m.length - 1 = k := by omega
          have hpos : (0 : Int) < (m.length : Int) := by omega
          have hki : (k : Int) < (m.length : Int) := by omega
          have hk2 : k < m.length := by omega
          clear hk
          by_cases h3 : en ≤ (mA m k).st
          · rw [eeR_no (fun h => by have := h.2.2.1 h2; rw [hkn] at this; omega)]
            clear hg
            go_enter Try.func23, Try.ntmps23
            go_wp2_with fail
            refine (implGoodM_any _ _ _ _ hs hl).mono ?_
            rintro r w1 ⟨hr, hB1⟩
            rw [HG.out] at hr; subst hr
            obtain ⟨b, off, rfl, c0, c1⟩ := (hs.below hB1) k _ (mA_get hk2)
            clear hs
            go_wp2_with (go_at_call 36; refine (within_any _ _ _).mono ?_; rintro e w' ⟨rfl, rfl⟩)
            go_ret3
            exact ⟨rfl, hB1⟩
          · rw [eeR_yes ⟨hg, h1, fun _ => by rw [hkn]; omega, h4⟩]
            clear hg
            go_enter Try.func23, Try.ntmps23
            go_wp2_with fail
            refine (implGoodM_any _ _ _ _ hs hl).mono ?_
            rintro r w1 ⟨hr, hB1⟩
            rw [HG.out] at hr; subst hr
            obtain ⟨b, off, rfl, c0, c1⟩ := (hs.below hB1) k _ (mA_get hk2)
            have hs1 := hs.below hB1
            clear hs
            go_wp2_with (first
              | (go_at_call 36; refine (within_any _ _ _).mono ?_; rintro e w' ⟨rfl, rfl⟩)
              | (go_at_call 30; refine (implEnd_any _ _ _ _ _ _ hs1 (by omega)).mono ?_; rintro e w2 ⟨rfl, hB2⟩))
            go_ret3
            exact ⟨rfl, hB1.trans (hB2.mono hB1.size)⟩
        · have hd : decide ((0 : Int) < (m.length : Int)) = false := decide_eq_false (by omega)
          rw [eeR_yes ⟨hg, h1, fun h => absurd h h2, h4⟩]
          clear hg
          go_enter Try.func23, Try.ntmps23
          go_wp2_with fail
          refine (implGoodM_any _ _ _ _ hs hl).mono ?_
          rintro r w1 ⟨hr, hB1⟩
          rw [HG.out] at hr; subst hr
          have hs1 := hs.below hB1
          clear hs
          go_wp2_with (first
            | (go_at_call 36; refine (within_any _ _ _).mono ?_; rintro e w' ⟨rfl, rfl⟩)
            | (go_at_call 30; refine (implEnd_any _ _ _ _ _ _ hs1 (by omega)).mono ?_; rintro e w2 ⟨rfl, hB2⟩))
          go_ret3
          exact ⟨rfl, hB1.trans (hB2.mono hB1.size)⟩
      · have b4 : inB ep 0 100 = false := inB_f.2 h4
        rw [eeR_no (fun h => h4 h.2.2.2)]
        clear hg
        go_enter Try.func23, Try.ntmps23
        go_wp2_with fail
        refine (implGoodM_any _ _ _ _ hs hl).mono ?_
        rintro r w1 ⟨hr, hB1⟩
        rw [HG.out] at hr; subst hr
        clear hs
        go_wp2_with (go_at_call 36; refine (within_any _ _ _).mono ?_; rintro e w' ⟨rfl, rfl⟩)
        go_ret3
        exact ⟨rfl, hB1⟩
    · have b1 : inB en 0 30 = false := inB_f.2 h1
      rw [eeR_no (fun h => h1 h.2.1)]
      clear hg
      go_enter Try.func23, Try.ntmps23
      go_wp2_with fail
      refine (implGoodM_any _ _ _ _ hs hl).mono ?_
      rintro r w1 ⟨hr, hB1⟩
      rw [HG.out] at hr; subst hr
      clear hs
      go_wp2_with (go_at_call 36; refine (within_any _ _ _).mono ?_; rintro e w' ⟨rfl, rfl⟩)
      go_ret3
      exact ⟨rfl, hB1⟩

end Go.Proofs.Ytgmcllfdhkjafaa
