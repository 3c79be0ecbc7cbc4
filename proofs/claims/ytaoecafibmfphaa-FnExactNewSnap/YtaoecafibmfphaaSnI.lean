/-
  Worlds of chapter 8, the program's side: goodSnapProcs, allWithin, together, onWays, slices.Index and slices.Contains of bools, goodPicture, goodPictures.
-/
import Derived.Test.YtaoecafibmfphaaSnM
namespace Go.Proofs.Ytaoecafibmfphaa
open Go.RowKit

theorem goodSnapProcs_any (n : Int) (w : World) : Calls Try.prog 39 #[.int .i64 n] w fun e w' => e = .returned (.bool (inB n 2 4)) ∧ w' = w := by
  by_cases h1 : 2 ≤ n
  · by_cases h2 : n ≤ 4
    · go_enter Try.func39, Try.ntmps39
      go_wp2
      go_ret
      exact ⟨ret_bool (by rw [inB_t.2 ⟨h1, h2⟩]), rfl⟩
    · go_enter Try.func39, Try.ntmps39
      go_wp2
      go_ret
      exact ⟨ret_bool (by rw [inB_f.2 (by omega)]), rfl⟩
  · go_enter Try.func39, Try.ntmps39
    go_wp2
    go_ret
    exact ⟨ret_bool (by rw [inB_f.2 (by omega)]), rfl⟩

set_option maxHeartbeats 1000000 in
theorem allWithin_any (a : Option Addr) (c : Nat) (zs : List Int) (hi : Int) (w : World) (hs : Ints w a zs) (hl : zs.length ≤ maxLen) :
    Calls Try.prog 61 #[.slice a zs.length c, .int .i64 hi] w fun e w' => e = .returned (.bool (allW zs hi)) ∧ w' = w := by
  unfold maxLen at hl
  go_enter Try.func61, Try.ntmps61
  go_wp2
  go_loop [9] (fun i => ∃ k : Nat, k ≤ zs.length ∧ i = .int .i64 k ∧ allTo zs hi k) (fun i => zs.length - (intOf i).toNat)
  case atStart => exact ⟨0, Nat.zero_le _, rfl, fun i hi => absurd hi (Nat.not_lt_zero _)⟩
  case round =>
    obtain ⟨k, hk, rfl, hok⟩ := hrel
    have HO : Hid (allTo zs hi k) := hok
    clear hok
    by_cases hlt : k < zs.length
    · obtain ⟨b, off, rfl, hc⟩ := hs k _ (zA_get hlt)
      clear hs
      by_cases hin : inB (zA zs k) 0 hi = true
      · have HI : Hid (inB (zA zs k) 0 hi = true) := hin
        clear hin
        go_wp2_with (go_at_call 40; refine (within_any _ _ _).mono ?_; rintro e w' ⟨he, rfl⟩; rw [HI.out] at he; subst he)
        go_round
        case rel => exact ⟨k + 1, by omega, by go_num, allTo_succ HO.out (inB_t.1 HI.out)⟩
        case measure => simp [intOf]; omega
      · have HI : Hid (inB (zA zs k) 0 hi = false) := by show _ = _; simpa using hin
        clear hin
        go_wp2_with (go_at_call 40; refine (within_any _ _ _).mono ?_; rintro e w' ⟨he, rfl⟩; rw [HI.out] at he; subst he)
        go_ret
        exact ⟨ret_bool (allW_bad hlt (inB_f.1 HI.out)).symm, rfl⟩
    · obtain rfl : k = zs.length := by omega
      go_wp2
      go_ret
      exact ⟨ret_bool (allW_t.2 HO.out).symm, rfl⟩

set_option maxHeartbeats 1000000 in
theorem together_any (a : Option Addr) (c : Nat) (zs : List Int) (w : World) (hs : Ints w a zs) (hl : zs.length ≤ 1000) (ha : allTo zs 1000000 zs.length) :
    Calls Try.prog 65 #[.slice a zs.length c] w fun e w' => e = .returned (.int .i64 (sumI zs)) ∧ w' = w := by
  have HA : Hid (∀ k, k ≤ zs.length → 0 ≤ sumTo zs k ∧ sumTo zs k ≤ 1000000000) := fun k hk => by
    have := sumTo_rg k (fun i hi => ha i (by omega)) (by omega)
    omega
  have HA2 : Hid (allTo zs 1000000 zs.length) := ha
  clear ha
  go_enter Try.func65, Try.ntmps65
  go_wp2
  go_loop [3, 8] (fun x i => ∃ k : Nat, k ≤ zs.length ∧ x = .int .i64 (sumTo zs k) ∧ i = .int .i64 k) (fun _ i => zs.length - (intOf i).toNat)
  case atStart => exact ⟨0, Nat.zero_le _, rfl, rfl⟩
  case round =>
    obtain ⟨k, hk, rfl, rfl⟩ := hrel
    by_cases hlt : k < zs.length
    · obtain ⟨b, off, rfl, hc⟩ := hs k _ (zA_get hlt)
      have h1 := HA.out k hk
      have h2 := HA2.out k hlt
      clear hs
      go_wp2
      go_round
      case rel => exact ⟨k + 1, by omega, rfl, by go_num⟩
      case measure => simp [intOf]; omega
    · obtain rfl : k = zs.length := by omega
      go_wp2
      go_ret
      exact ⟨rfl, rfl⟩

theorem allTo_up {zs : List Int} {a b : Int} {k : Nat} (h : allTo zs a k) (hab : a ≤ b) : allTo zs b k := fun i hi => ⟨(h i hi).1, by have := (h i hi).2; omega⟩

set_option maxHeartbeats 1000000 in
theorem onWays_any (a : Option Addr) (c : Nat) (l : List Ch) (w : World) (hs : Chs w a l) (hl : l.length ≤ 1000) (ha : waysOk l) :
    Calls Try.prog 66 #[.slice a l.length c] w fun e w' => e = .returned (.int .i64 (onW l)) ∧ Below w.heap.size w w' := by
  have HA : Hid (∀ k, k ≤ l.length → 0 ≤ onTo l k ∧ onTo l k ≤ 8000000) := fun k hk => by
    have := onTo_rg ha k hk
    omega
  have HA2 : Hid (waysOk l) := ha
  clear ha
  go_enter Try.func66, Try.ntmps66
  go_wp2
  go_loopw [3, 8] (fun x i wr => ∃ k : Nat, k ≤ l.length ∧ x = .int .i64 (onTo l k) ∧ i = .int .i64 k ∧ Below w.heap.size w wr) (fun _ i _ => l.length - (intOf i).toNat)
  case atStart => exact ⟨0, Nat.zero_le _, rfl, rfl, Below.refl _ _⟩
  case round =>
    obtain ⟨k, hk, rfl, rfl, hB⟩ := hrel
    by_cases hlt : k < l.length
    · obtain ⟨kb, ob, rfl, r2, k2, c0, c1, c2, q2, m2⟩ := (hs.below hB) k _ (chA_get hlt)
      have h1 := HA.out k hk
      obtain ⟨h2, h3⟩ := HA2.out k hlt
      have h4 := way_rg h2 h3
      have h5 := allTo_up h3 (b := 1000000) (by omega)
      have q3 : ∀ o, Ints (wr.alloc o) r2 (chA l k).way := fun o => q2.below (alB wr o)
      have hBn : ∀ o, Below w.heap.size w (wr.alloc o) := fun o => hB.alloc hB.size o
      have HN : Hid (onTo l (k + 1) = onTo l k + sumI (chA l k).way) := rfl
      generalize chA l k = b at *
      clear hs q2
      go_wp2_with (go_at_call 65; refine (together_any _ _ _ _ (q3 _) (by omega) h5).mono ?_; rintro e w' ⟨rfl, rfl⟩)
      go_roundw
      case rel => exact ⟨k + 1, by omega, by rw [HN.out], by go_num, hBn _⟩
      case measure => simp [intOf]; omega
    · obtain rfl : k = l.length := by omega
      go_wp2
      go_ret
      exact ⟨rfl, hB⟩

set_option maxHeartbeats 1000000 in
theorem indexB_any (a : Option Addr) (c : Nat) (bs : List Bool) (x : Bool) (w : World) (hs : Bools w a bs) (hl : bs.length ≤ maxLen) :
    Calls Try.prog 96 #[.slice a bs.length c, .bool x] w fun e w' => (∃ z : Int, e = .returned (.int .i64 z) ∧ (0 ≤ z ↔ hasB bs x = true)) ∧ w' = w := by
  unfold maxLen at hl
  go_enter Try.func96, Try.ntmps96
  go_wp2
  go_loop [8] (fun i => ∃ k : Nat, k ≤ bs.length ∧ i = .int .i64 k ∧ hasTo bs x k) (fun i => bs.length - (intOf i).toNat)
  case atStart => exact ⟨0, Nat.zero_le _, rfl, fun i hi => absurd hi (Nat.not_lt_zero _)⟩
  case round =>
    obtain ⟨k, hk, rfl, hok⟩ := hrel
    have HO : Hid (hasTo bs x k) := hok
    clear hok
    by_cases hlt : k < bs.length
    · obtain ⟨b, off, rfl, hc⟩ := hs k _ (boA_get hlt)
      clear hs
      by_cases he : boA bs k = x
      · have HE : Hid (boA bs k = x) := he
        have d : (x == boA bs k) = true := by simp [he]
        clear he
        go_wp2
        go_ret
        exact ⟨⟨_, rfl, by rw [has_t hlt HE.out]; simp⟩, rfl⟩
      · have HE : Hid (boA bs k ≠ x) := he
        have d : (x == boA bs k) = false := by simp only [beq_eq_false_iff_ne]; exact fun h => he h.symm
        clear he
        go_wp2
        go_round
        case rel =>
          refine ⟨k + 1, by omega, by go_num, fun i hi => ?_⟩
          by_cases e : i = k
          · subst e; exact HE.out
          · exact HO.out i (by omega)
        case measure => simp [intOf]; omega
    · obtain rfl : k = bs.length := by omega
      go_wp2
      go_ret
      exact ⟨⟨_, rfl, by rw [has_f HO.out]; simp⟩, rfl⟩

theorem containsB_any (a : Option Addr) (c : Nat) (bs : List Bool) (x : Bool) (w : World) (hs : Bools w a bs) (hl : bs.length ≤ maxLen) :
    Calls Try.prog 74 #[.slice a bs.length c, .bool x] w fun e w' => e = .returned (.bool (hasB bs x)) ∧ w' = w := by
  go_enter Try.func74, Try.ntmps74
  go_wp2_with fail
  refine (indexB_any _ _ _ _ _ hs hl).mono ?_
  rintro r w1 ⟨⟨z, rfl, hz⟩, rfl⟩
  cases hb : hasB bs x with
  | true =>
    have h0 := hz.2 hb
    clear hz
    go_wp2
    go_ret
    exact ⟨ret_bool hb.symm, rfl⟩
  | false =>
    have h0 : ¬ 0 ≤ z := fun h => by have := hz.1 h; rw [hb] at this; cases this
    clear hz
    go_wp2
    go_ret
    exact ⟨ret_bool (by rw [hb]; simpa using h0), rfl⟩

end Go.Proofs.Ytaoecafibmfphaa
