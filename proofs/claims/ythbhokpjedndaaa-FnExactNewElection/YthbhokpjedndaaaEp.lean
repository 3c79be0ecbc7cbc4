/-
  Logs told by epochs: spec.GoodEntries and impl.GoodEntries answer the same Bool, 'goodE', at every list of numbers that can be read.
-/
import Derived.Test.YthbhokpjedndaaaGood
import Derived.Test.YthbhokpjedndaaaInts
namespace Go.Proofs.Ythbhokpjedndaaa
open Go.RowKit

def zA (zs : List Int) (i : Nat) : Int := zs.getD i 0
def okE (zs : List Int) (k : Nat) : Prop := ∀ i, i < k → 0 ≤ zA zs i ∧ zA zs i ≤ 100 ∧ (0 < i → zA zs (i - 1) ≤ zA zs i)
instance (zs : List Int) (k : Nat) : Decidable (okE zs k) := by unfold okE; infer_instance
def goodE (zs : List Int) : Bool := decide (zs.length ≤ 30 ∧ okE zs zs.length)

theorem goodE_t {zs : List Int} : goodE zs = true ↔ zs.length ≤ 30 ∧ okE zs zs.length := by simp [goodE]
theorem goodE_f {zs : List Int} (h : ¬ (zs.length ≤ 30 ∧ okE zs zs.length)) : goodE zs = false := by simp only [goodE, decide_eq_false_iff_not]; exact h

theorem zA_some {zs : List Int} {k : Nat} {z : Int} (h : zs[k]? = some z) : zA zs k = z := by
  unfold zA; rw [List.getD_eq_getElem?_getD, h]; rfl
theorem zA_get {zs : List Int} {k : Nat} (h : k < zs.length) : zs[k]? = some (zA zs k) := by
  unfold zA; rw [List.getD_eq_getElem?_getD, List.getElem?_eq_getElem h]; rfl

theorem okE_succ {zs : List Int} {k : Nat} (h : okE zs k) (h0 : 0 ≤ zA zs k) (h1 : zA zs k ≤ 100) (h2 : 0 < k → zA zs (k - 1) ≤ zA zs k) : okE zs (k + 1) := fun i hi => by
  by_cases e : i = k
  · subst e; exact ⟨h0, h1, h2⟩
  · exact h i (by omega)

theorem okE_bad {zs : List Int} {k : Nat} (hk : k < zs.length) (h : ¬ (0 ≤ zA zs k ∧ zA zs k ≤ 100 ∧ (0 < k → zA zs (k - 1) ≤ zA zs k))) : goodE zs = false :=
  goodE_f fun g => h (g.2 k hk)

set_option maxHeartbeats 1000000 in
theorem specGoodE_any (a : Option Addr) (c : Nat) (zs : List Int) (w : World) (hs : Ints w a zs) (hl : zs.length ≤ maxLen) :
    Calls Try.prog 29 #[.slice a zs.length c] w fun e w' => e = .returned (.bool (goodE zs)) ∧ w' = w := by
  unfold maxLen at hl
  go_enter Try.func29, Try.ntmps29
  go_wp2
  go_loop [7] (fun i => ∃ k : Nat, k ≤ zs.length ∧ i = .int .i64 k ∧ okE zs k) (fun i => zs.length - (intOf i).toNat)
  case atStart => exact ⟨0, Nat.zero_le _, rfl, fun i hi => absurd hi (Nat.not_lt_zero _)⟩
  case round =>
    obtain ⟨k, hk, rfl, hok⟩ := hrel
    have HO : Hid (okE zs k) := hok
    clear hok
    by_cases hlt : k < zs.length
    · obtain ⟨b, off, rfl, hc⟩ := hs k _ (zA_get hlt)
      by_cases hin : inB (zA zs k) 0 100 = true
      · have HI : Hid (inB (zA zs k) 0 100 = true) := hin
        have hin2 := inB_t.1 hin
        clear hin
        rcases Nat.eq_zero_or_pos k with h0 | h0
        · subst h0
          rw [Nat.add_zero] at hc
          clear hs
          go_wp2_with (go_at_call 31; refine (l1In_any _ _ _ _).mono ?_; rintro e w' ⟨he, rfl⟩; rw [HI.out] at he; subst he)
          go_round
          case rel => exact ⟨1, by omega, rfl, okE_succ HO.out hin2.1 hin2.2 (fun h => absurd h (Nat.lt_irrefl _))⟩
          case measure => simp [intOf]; omega
        · obtain ⟨j, rfl⟩ : ∃ j, k = j + 1 := ⟨k - 1, by omega⟩
          obtain ⟨b', off', e', hc'⟩ := hs j _ (zA_get (by omega))
          simp only [Option.some.injEq, Addr.mk.injEq, and_true] at e'
          obtain ⟨rfl, rfl⟩ := e'
          have hz : (0 : Int) < (((j + 1 : Nat) : Int)) := by omega
          have hj1 : ((j + 1 : Nat) : Int) - 1 = (j : Int) := by omega
          clear hs
          by_cases hle : zA zs (j + 1) < zA zs j
          · go_wp2_with (go_at_call 31; refine (l1In_any _ _ _ _).mono ?_; rintro e w' ⟨he, rfl⟩; rw [HI.out] at he; subst he)
            go_ret
            exact ⟨ret_bool (okE_bad hlt (fun h => by have := h.2.2 (by omega); simp at this; omega)).symm, rfl⟩
          · go_wp2_with (go_at_call 31; refine (l1In_any _ _ _ _).mono ?_; rintro e w' ⟨he, rfl⟩; rw [HI.out] at he; subst he)
            go_round
            case rel => exact ⟨j + 1 + 1, by omega, by go_num, okE_succ HO.out hin2.1 hin2.2 (fun h => by simp; omega)⟩
            case measure => simp [intOf]; omega
      · have HI : Hid (inB (zA zs k) 0 100 = false) := by show _ = _; simpa using hin
        have hin2 := inB_f.1 HI.out
        clear hin hs
        go_wp2_with (go_at_call 31; refine (l1In_any _ _ _ _).mono ?_; rintro e w' ⟨he, rfl⟩; rw [HI.out] at he; subst he)
        go_ret
        exact ⟨ret_bool (okE_bad hlt (fun h => by omega)).symm, rfl⟩
    · obtain rfl : k = zs.length := by omega
      go_wp2
      go_ret
      refine ⟨ret_bool ?_, rfl⟩
      have := HO.out
      by_cases h30 : zs.length ≤ 30
      · rw [goodE_t.2 ⟨h30, this⟩]; simp; omega
      · rw [goodE_f (fun h => h30 h.1)]; simp; omega

set_option maxHeartbeats 1000000 in
theorem implGoodE_any (a : Option Addr) (c : Nat) (zs : List Int) (w : World) (hs : Ints w a zs) (hl : zs.length ≤ maxLen) :
    Calls Try.prog 34 #[.slice a zs.length c] w fun e w' => e = .returned (.bool (goodE zs)) ∧ w' = w := by
  unfold maxLen at hl
  by_cases h30 : (30 : Int) < zs.length
  · go_enter Try.func34, Try.ntmps34
    go_wp2
    go_ret
    exact ⟨ret_bool (goodE_f (fun h => by omega)).symm, rfl⟩
  go_enter Try.func34, Try.ntmps34
  go_wp2
  go_loop [3, 11] (fun l i => ∃ k : Nat, ∃ z : Int, k ≤ zs.length ∧ i = .int .i64 k ∧ l = .int .i64 z ∧ z = (if k = 0 then 0 else zA zs (k - 1)) ∧ okE zs k) (fun _ i => zs.length - (intOf i).toNat)
  case atStart => exact ⟨0, 0, Nat.zero_le _, rfl, rfl, rfl, fun i hi => absurd hi (Nat.not_lt_zero _)⟩
  case round =>
    obtain ⟨k, z, hk, rfl, rfl, hz, hok⟩ := hrel
    have HO : Hid (okE zs k) := hok
    have HZ : Hid (z = (if k = 0 then 0 else zA zs (k - 1))) := hz
    clear hz
    have hz0 : 0 ≤ z := by
      rw [HZ.out]; split
      · exact Int.le_refl _
      · exact (hok (k - 1) (by omega)).1
    clear hok
    by_cases hlt : k < zs.length
    · obtain ⟨b, off, rfl, hc⟩ := hs k _ (zA_get hlt)
      clear hs
      by_cases h1 : zA zs k < z
      · go_wp2
        go_ret
        refine ⟨ret_bool (okE_bad hlt (fun h => ?_)).symm, rfl⟩
        have e := HZ.out
        split at e
        · omega
        · have := h.2.2 (by omega); omega
      · by_cases h2 : 100 < zA zs k
        · go_wp2
          go_ret
          exact ⟨ret_bool (okE_bad hlt (fun h => by omega)).symm, rfl⟩
        · go_wp2
          go_round
          case rel =>
            refine ⟨k + 1, _, by omega, by go_num, rfl, by simp, okE_succ HO.out (by omega) (by omega) (fun h => ?_)⟩
            have e := HZ.out
            rw [if_neg (by omega)] at e
            omega
          case measure => simp [intOf]; omega
    · obtain rfl : k = zs.length := by omega
      go_wp2
      go_ret
      exact ⟨ret_bool (goodE_t.2 ⟨by omega, HO.out⟩).symm, rfl⟩

end Go.Proofs.Ythbhokpjedndaaa
