/-
  Clocks that are good, and two of them joined: the contracts of spec.l7Clock, impl.goodClock, impl.goodClocks, impl.pairsOf, impl.joinedClock.
-/
import Derived.Test.YtambbgpofmojnaaFlt
import Derived.Deep.RegionLaw
import Derived.Deep.AppendLies
namespace Go.Proofs.Ytambbgpofmojnaa
open Go.RowKit

theorem info_partsC {P : Program} {e : TypeId} {z : Value} {size bytes : Nat} (h : (P.info? e).map (fun i => (i.zero, i.size, i.bytes)) = some (some z, size, bytes)) :
    ∃ i, P.info? e = some i ∧ i.zero = some z ∧ i.size = size ∧ i.bytes = bytes := by
  obtain ⟨i, hi, hzz⟩ := Option.map_eq_some_iff.1 h
  simp only [Prod.mk.injEq] at hzz
  exact ⟨i, hi, hzz.1, hzz.2.1, hzz.2.2⟩

def okC (zs : List Int) (k : Nat) : Prop := ∀ i, i < k → 0 ≤ zA zs i ∧ zA zs i ≤ 1000
instance (zs : List Int) (k : Nat) : Decidable (okC zs k) := by unfold okC; infer_instance
def goodC (zs : List Int) : Bool := decide (okC zs zs.length ∧ 1 ≤ zs.length ∧ zs.length ≤ 5)
theorem goodC_t {zs : List Int} : goodC zs = true ↔ okC zs zs.length ∧ 1 ≤ zs.length ∧ zs.length ≤ 5 := by simp [goodC]
theorem goodC_f {zs : List Int} (h : ¬ (okC zs zs.length ∧ 1 ≤ zs.length ∧ zs.length ≤ 5)) : goodC zs = false := by simp only [goodC, decide_eq_false_iff_not]; exact h
theorem okC_succ {zs : List Int} {k : Nat} (h : okC zs k) (h1 : 0 ≤ zA zs k ∧ zA zs k ≤ 1000) : okC zs (k + 1) := fun i hi => by
  by_cases e : i = k
  · subst e; exact h1
  · exact h i (by omega)

set_option maxHeartbeats 1000000 in
theorem l7Clock_any (a : Option Addr) (c : Nat) (zs : List Int) (w : World) (hs : Ints w a zs) (hl : zs.length ≤ maxLen) :
    Calls Try.prog 49 #[.slice a zs.length c] w fun r w' => r = .returned (.bool (goodC zs)) ∧ w' = w := by
  unfold maxLen at hl
  go_enter Try.func49, Try.ntmps49
  go_wp2
  go_loop [7] (fun i => ∃ k : Nat, k ≤ zs.length ∧ i = .int .i64 k ∧ okC zs k) (fun i => zs.length - (intOf i).toNat)
  case atStart => exact ⟨0, Nat.zero_le _, rfl, fun i hi => absurd hi (Nat.not_lt_zero _)⟩
  case round =>
    obtain ⟨k, hk, rfl, hok⟩ := hrel
    have HO : Hid (okC zs k) := hok
    clear hok
    by_cases hlt : k < zs.length
    · obtain ⟨b, off, rfl, hc⟩ := hs k _ (zA_get hlt)
      clear hs
      generalize hg : inB (zA zs k) 0 1000 = g
      have HG : Hid (inB (zA zs k) 0 1000 = g) := hg
      clear hg
      cases g
      · have HR : Hid (goodC zs = false) := goodC_f (fun h => by have h1 := h.1 k hlt; have := inB_f.1 HG.out; omega)
        go_wp2_with (go_at_call 32; refine (l1In_any _ _ _ _).mono ?_; rintro r w2 ⟨hr, hw2⟩; rw [HG.out] at hr; subst hr; rw [hw2]; clear hw2 w2)
        go_ret
        exact ⟨ret_bool HR.out.symm, rfl⟩
      · go_wp2_with (go_at_call 32; refine (l1In_any _ _ _ _).mono ?_; rintro r w2 ⟨hr, hw2⟩; rw [HG.out] at hr; subst hr; rw [hw2]; clear hw2 w2)
        go_round
        case rel => exact ⟨k + 1, by omega, by go_num, okC_succ HO.out (inB_t.1 HG.out)⟩
        case measure => simp [intOf]; omega
    · obtain rfl : k = zs.length := by omega
      go_wp2_with (go_at_call 32; refine (l1In_any _ _ _ _).mono ?_; rintro r w2 ⟨rfl, hw2⟩; rw [hw2]; clear hw2 w2)
      go_ret
      refine ⟨ret_bool ?_, rfl⟩
      rw [Bool.eq_iff_iff, inB_t, goodC_t]
      have := HO.out
      constructor
      · exact fun h => ⟨this, by omega, by omega⟩
      · exact fun h => by omega

theorem oneUpToC (n hi : Int) (w : World) : Calls Try.prog 35 #[.int .i64 n, .int .i64 hi] w fun e w' => e = .returned (.bool (inB n 1 hi)) ∧ w' = w := by
  by_cases h1 : 1 ≤ n
  · by_cases h2 : n ≤ hi
    · go_enter Try.func35, Try.ntmps35
      go_wp2
      go_ret
      exact ⟨ret_bool (by rw [inB_t.2 ⟨h1, h2⟩]), rfl⟩
    · go_enter Try.func35, Try.ntmps35
      go_wp2
      go_ret
      exact ⟨ret_bool (by rw [inB_f.2 (by omega)]), rfl⟩
  · go_enter Try.func35, Try.ntmps35
    go_wp2
    go_ret
    exact ⟨ret_bool (by rw [inB_f.2 (by omega)]), rfl⟩

set_option maxHeartbeats 1000000 in
theorem goodClock_any (a : Option Addr) (c : Nat) (zs : List Int) (w : World) (hs : Ints w a zs) (hl : zs.length ≤ maxLen) :
    Calls Try.prog 59 #[.slice a zs.length c] w fun r w' => r = .returned (.bool (goodC zs)) ∧ w' = w := by
  unfold maxLen at hl
  generalize hg : inB zs.length 1 5 = g
  have HG : Hid (inB zs.length 1 5 = g) := hg
  clear hg
  cases g
  · have HR : Hid (goodC zs = false) := goodC_f (fun h => by have := inB_f.1 HG.out; omega)
    go_enter Try.func59, Try.ntmps59
    go_wp2_with (go_at_call 35; refine (oneUpToC _ _ _).mono ?_; rintro r w2 ⟨hr, hw2⟩; rw [HG.out] at hr; subst hr; rw [hw2]; clear hw2 w2)
    go_ret
    exact ⟨ret_bool HR.out.symm, rfl⟩
  go_enter Try.func59, Try.ntmps59
  go_wp2_with (go_at_call 35; refine (oneUpToC _ _ _).mono ?_; rintro r w2 ⟨hr, hw2⟩; rw [HG.out] at hr; subst hr; rw [hw2]; clear hw2 w2)
  go_loop [11] (fun i => ∃ k : Nat, k ≤ zs.length ∧ i = .int .i64 k ∧ okC zs k) (fun i => zs.length - (intOf i).toNat)
  case atStart => exact ⟨0, Nat.zero_le _, rfl, fun i hi => absurd hi (Nat.not_lt_zero _)⟩
  case round =>
    obtain ⟨k, hk, rfl, hok⟩ := hrel
    have HO : Hid (okC zs k) := hok
    clear hok
    by_cases hlt : k < zs.length
    · obtain ⟨b, off, rfl, hc⟩ := hs k _ (zA_get hlt)
      clear hs
      generalize hg : inB (zA zs k) 0 1000 = g
      have HG2 : Hid (inB (zA zs k) 0 1000 = g) := hg
      clear hg
      cases g
      · have HR : Hid (goodC zs = false) := goodC_f (fun h => by have h1 := h.1 k hlt; have := inB_f.1 HG2.out; omega)
        go_wp2_with (go_at_call 36; refine (within_any _ _ _).mono ?_; rintro r w2 ⟨hr, hw2⟩; rw [HG2.out] at hr; subst hr; rw [hw2]; clear hw2 w2)
        go_ret
        exact ⟨ret_bool HR.out.symm, rfl⟩
      · go_wp2_with (go_at_call 36; refine (within_any _ _ _).mono ?_; rintro r w2 ⟨hr, hw2⟩; rw [HG2.out] at hr; subst hr; rw [hw2]; clear hw2 w2)
        go_round
        case rel => exact ⟨k + 1, by omega, by go_num, okC_succ HO.out (inB_t.1 HG2.out)⟩
        case measure => simp [intOf]; omega
    · obtain rfl : k = zs.length := by omega
      have HR : Hid (goodC zs = true) := goodC_t.2 ⟨HO.out, by have := inB_t.1 HG.out; omega, by have := inB_t.1 HG.out; omega⟩
      go_wp2
      go_ret
      exact ⟨ret_bool HR.out.symm, rfl⟩

/-- Two good clocks of one length. -/
def goodCC (xs ys : List Int) : Bool := decide (xs.length = ys.length) && (goodC xs && goodC ys)

set_option maxHeartbeats 1000000 in
theorem goodClocks_any (a a2 : Option Addr) (c c2 : Nat) (xs ys : List Int) (w : World) (hx : Ints w a xs) (hy : Ints w a2 ys) (hl : xs.length ≤ maxLen) (hl2 : ys.length ≤ maxLen) :
    Calls Try.prog 51 #[.slice a xs.length c, .slice a2 ys.length c2] w fun r w' => r = .returned (.bool (goodCC xs ys)) ∧ w' = w := by
  by_cases hn : xs.length = ys.length
  · have HD : Hid (goodCC xs ys = (goodC xs && goodC ys)) := by show _ = _; unfold goodCC; rw [decide_eq_true hn]; rfl
    have hd : ((xs.length : Int) == (ys.length : Int)) = true := by simp [hn]
    clear hn
    cases hg : goodC xs
    all_goals
      have HG : Hid (goodC xs = _) := hg
      rw [hg] at HD
      clear hg
      go_enter Try.func51, Try.ntmps51
      go_wp2_with (first | (go_at_call_of 59 (Value.slice a xs.length c); refine (goodClock_any a c xs _ hx hl).mono ?_; rintro r w2 ⟨hr, hw2⟩; rw [HG.out] at hr; subst hr; rw [hw2]; clear hw2 w2) | (go_at_call 59; refine (goodClock_any a2 c2 ys _ hy hl2).mono ?_; rintro r w2 ⟨rfl, hw2⟩; rw [hw2]; clear hw2 w2))
      go_ret
      exact ⟨ret_bool (by rw [HD.out]; simp), rfl⟩
  · have HD : Hid (goodCC xs ys = false) := by show _ = _; unfold goodCC; rw [decide_eq_false hn]; rfl
    have hd : ((xs.length : Int) == (ys.length : Int)) = false := by simp; omega
    clear hn
    go_enter Try.func51, Try.ntmps51
    go_wp2
    go_ret
    exact ⟨ret_bool HD.out.symm, rfl⟩

end Go.Proofs.Ytambbgpofmojnaa
