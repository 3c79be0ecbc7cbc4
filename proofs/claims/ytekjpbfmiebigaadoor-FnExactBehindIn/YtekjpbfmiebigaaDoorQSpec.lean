/-
  Groups of members, the specification's side: the contracts of spec.l1Has, l6Group, l6Groups, l6Meet, l6All, l6Has, l6Coterie, l6Each.
-/
import Derived.Test.YtekjpbfmiebigaaDoorIss
namespace Go.Proofs.YtekjpbfmiebigaaDoor
open Go.RowKit

theorem zA_mem {zs : List Int} {n : Int} : n ∈ zs ↔ ∃ i, i < zs.length ∧ zA zs i = n := by
  constructor
  · intro h
    obtain ⟨i, hi⟩ := List.getElem?_of_mem h
    exact ⟨i, (List.getElem?_eq_some_iff.1 hi).1, zA_some hi⟩
  · rintro ⟨i, hi, rfl⟩
    exact List.mem_of_getElem? (zA_get hi)

set_option maxHeartbeats 1000000 in
theorem l1Has_any (a : Option Addr) (c : Nat) (zs : List Int) (n : Int) (w : World) (hs : Ints w a zs) (hl : zs.length ≤ maxLen) :
    Calls Tryd.prog 66 #[.slice a zs.length c, .int .i64 n] w fun e w' => e = .returned (.bool (zs.contains n)) ∧ w' = w := by
  unfold maxLen at hl
  go_enter Tryd.func66, Tryd.ntmps66
  go_wp2
  go_loop [9] (fun i => ∃ k : Nat, k ≤ zs.length ∧ i = .int .i64 k ∧ ∀ j, j < k → zA zs j ≠ n) (fun i => zs.length - (intOf i).toNat)
  case atStart => exact ⟨0, Nat.zero_le _, rfl, fun i hi => absurd hi (Nat.not_lt_zero _)⟩
  case round =>
    obtain ⟨k, hk, rfl, hok⟩ := hrel
    have HO : Hid (∀ j, j < k → zA zs j ≠ n) := hok
    clear hok
    by_cases hlt : k < zs.length
    · obtain ⟨b, off, rfl, hc⟩ := hs k _ (zA_get hlt)
      clear hs
      by_cases he : zA zs k = n
      · have hb : (zA zs k == n) = true := by simp [he]
        have HE : Hid (zA zs k = n) := he
        clear he
        go_wp2
        go_ret
        exact ⟨ret_bool (by have := zA_mem.2 ⟨k, hlt, HE.out⟩; simp [this]), rfl⟩
      · have hb : (zA zs k == n) = false := by simp [he]
        have HE : Hid (zA zs k ≠ n) := he
        clear he
        go_wp2
        go_round
        case rel =>
          refine ⟨k + 1, by omega, by go_num, fun j hj => ?_⟩
          by_cases e : j = k
          · subst e; exact HE.out
          · exact HO.out j (by omega)
        case measure => simp [intOf]; omega
    · obtain rfl : k = zs.length := by omega
      clear hs
      go_wp2
      go_ret
      refine ⟨ret_bool (Eq.symm ?_), rfl⟩
      rw [Bool.eq_false_iff]
      intro h
      obtain ⟨i, hi, e⟩ := zA_mem.1 (show n ∈ zs by simpa using h)
      exact HO.out i hi e

set_option maxHeartbeats 1000000 in
theorem l6Group_any (a : Option Addr) (c : Nat) (zs : List Int) (many : Int) (w : World) (hs : Ints w a zs) (hl : zs.length ≤ maxLen) :
    Calls Tryd.prog 65 #[.slice a zs.length c, .int .i64 many] w fun e w' => e = .returned (.bool (riseB zs many)) ∧ w' = w := by
  unfold maxLen at hl
  go_enter Tryd.func65, Tryd.ntmps65
  go_wp2
  go_loop [9] (fun i => ∃ k : Nat, k ≤ zs.length ∧ i = .int .i64 k ∧ riseTo zs many k) (fun i => zs.length - (intOf i).toNat)
  case atStart => exact ⟨0, Nat.zero_le _, rfl, fun i hi => absurd hi (Nat.not_lt_zero _)⟩
  case round =>
    obtain ⟨k, hk, rfl, hok⟩ := hrel
    have HO : Hid (riseTo zs many k) := hok
    clear hok
    by_cases hlt : k < zs.length
    · obtain ⟨b, off, rfl, hc⟩ := hs k _ (zA_get hlt)
      by_cases h1 : zA zs k < 0
      · clear hs
        go_wp2
        go_ret
        exact ⟨ret_bool (riseB_f hlt (fun h => by omega)).symm, rfl⟩
      by_cases h2 : many ≤ zA zs k
      · clear hs
        go_wp2
        go_ret
        exact ⟨ret_bool (riseB_f hlt (fun h => by omega)).symm, rfl⟩
      rcases Nat.eq_zero_or_pos k with h0 | h0
      · subst h0
        rw [Nat.add_zero] at hc
        clear hs
        go_wp2
        go_round
        case rel => exact ⟨1, by omega, rfl, riseTo_succ HO.out (by omega) (by omega) (fun h => absurd h (Nat.lt_irrefl _))⟩
        case measure => simp [intOf]; omega
      · obtain ⟨j, rfl⟩ : ∃ j, k = j + 1 := ⟨k - 1, by omega⟩
        obtain ⟨b', off', e', hc'⟩ := hs j _ (zA_get (by omega))
        simp only [Option.some.injEq, Addr.mk.injEq, and_true] at e'
        obtain ⟨rfl, rfl⟩ := e'
        have hz : (0 : Int) < (((j + 1 : Nat) : Int)) := by omega
        have hj1 : ((j + 1 : Nat) : Int) - 1 = (j : Int) := by omega
        clear hs
        by_cases hle : zA zs (j + 1) ≤ zA zs j
        · go_wp2
          go_ret
          exact ⟨ret_bool (riseB_f hlt (fun h => by have := h.2.2 (by omega); simp at this; omega)).symm, rfl⟩
        · go_wp2
          go_round
          case rel => exact ⟨j + 1 + 1, by omega, by go_num, riseTo_succ HO.out (by omega) (by omega) (fun h => by simp; omega)⟩
          case measure => simp [intOf]; omega
    · obtain rfl : k = zs.length := by omega
      clear hs
      go_wp2
      go_ret
      exact ⟨ret_bool (riseB_t.2 HO.out).symm, rfl⟩

def lA (L : List (List Int)) (i : Nat) : List Int := L.getD i []
theorem lA_some {L : List (List Int)} {k : Nat} {z : List Int} (h : L[k]? = some z) : lA L k = z := by
  unfold lA; rw [List.getD_eq_getElem?_getD, h]; rfl
theorem lA_get {L : List (List Int)} {k : Nat} (h : k < L.length) : L[k]? = some (lA L k) := by
  unfold lA; rw [List.getD_eq_getElem?_getD, List.getElem?_eq_getElem h]; rfl

/-- The first k groups are good. -/
def grTo (L : List (List Int)) (many : Int) (k : Nat) : Prop := ∀ i, i < k → 0 < (lA L i).length ∧ riseB (lA L i) many = true
instance (L : List (List Int)) (many : Int) (k : Nat) : Decidable (grTo L many k) := by unfold grTo; infer_instance
def goodL (L : List (List Int)) (many : Int) : Bool := decide (grTo L many L.length) && decide (L.length ≤ 40)
theorem goodL_t {L : List (List Int)} {many : Int} : goodL L many = true ↔ grTo L many L.length ∧ L.length ≤ 40 := by simp [goodL]
theorem goodL_bad {L : List (List Int)} {many : Int} {k : Nat} (hk : k < L.length) (h : ¬ (0 < (lA L k).length ∧ riseB (lA L k) many = true)) : goodL L many = false := by
  rw [Bool.eq_false_iff]; intro g; exact h ((goodL_t.1 g).1 k hk)
theorem grTo_succ {L : List (List Int)} {many : Int} {k : Nat} (h : grTo L many k) (h0 : 0 < (lA L k).length) (h1 : riseB (lA L k) many = true) : grTo L many (k + 1) := fun i hi => by
  by_cases e : i = k
  · subst e; exact ⟨h0, h1⟩
  · exact h i (by omega)

set_option maxHeartbeats 1000000 in
theorem l6Has_any (a a2 : Option Addr) (c c2 : Nat) (xs ys : List Int) (w : World) (hx : Ints w a xs) (hy : Ints w a2 ys) (hl : xs.length ≤ maxLen) (hl2 : ys.length ≤ maxLen) :
    Calls Tryd.prog 69 #[.slice a xs.length c, .slice a2 ys.length c2] w fun e w' => e = .returned (.bool (hasL xs ys)) ∧ w' = w := by
  unfold maxLen at hl2
  go_enter Tryd.func69, Tryd.ntmps69
  go_wp2
  go_loop [9] (fun i => ∃ k : Nat, k ≤ ys.length ∧ i = .int .i64 k ∧ ∀ j, j < k → xs.contains (zA ys j) = true) (fun i => ys.length - (intOf i).toNat)
  case atStart => exact ⟨0, Nat.zero_le _, rfl, fun i hi => absurd hi (Nat.not_lt_zero _)⟩
  case round =>
    obtain ⟨k, hk, rfl, hok⟩ := hrel
    have HO : Hid (∀ j, j < k → xs.contains (zA ys j) = true) := hok
    clear hok
    by_cases hlt : k < ys.length
    · obtain ⟨b, off, rfl, hc⟩ := hy k _ (zA_get hlt)
      clear hy
      cases hb : xs.contains (zA ys k) with
      | false =>
        have HE : Hid (xs.contains (zA ys k) = false) := hb
        clear hb
        go_wp2_with (go_at_call 66; refine (l1Has_any _ _ _ _ _ hx hl).mono ?_; rintro e w' ⟨he, rfl⟩; rw [HE.out] at he; subst he)
        go_ret
        refine ⟨ret_bool (Eq.symm ?_), rfl⟩
        rw [Bool.eq_false_iff]
        intro h
        have := List.all_eq_true.1 h _ (zA_mem.2 ⟨k, hlt, rfl⟩)
        rw [HE.out] at this
        cases this
      | true =>
        have HE : Hid (xs.contains (zA ys k) = true) := hb
        clear hb
        go_wp2_with (go_at_call 66; refine (l1Has_any _ _ _ _ _ hx hl).mono ?_; rintro e w' ⟨he, rfl⟩; rw [HE.out] at he; subst he)
        go_round
        case rel =>
          refine ⟨k + 1, by omega, by go_num, fun j hj => ?_⟩
          by_cases e : j = k
          · subst e; exact HE.out
          · exact HO.out j (by omega)
        case measure => simp [intOf]; omega
    · obtain rfl : k = ys.length := by omega
      clear hy
      go_wp2
      go_ret
      refine ⟨ret_bool (Eq.symm ?_), rfl⟩
      refine List.all_eq_true.2 fun z hz => ?_
      obtain ⟨i, hi, rfl⟩ := zA_mem.1 hz
      exact HO.out i hi

/-- Each of the first k meets those ahead of it. -/
def metTo (L : List (List Int)) (k : Nat) : Prop := ∀ i, i < k → ∀ j, j < i → meetL (lA L i) (lA L j) = true
instance (L : List (List Int)) (k : Nat) : Decidable (metTo L k) := by unfold metTo; infer_instance
def allL (L : List (List Int)) : Bool := decide (metTo L L.length)
theorem allL_t {L : List (List Int)} : allL L = true ↔ metTo L L.length := by simp [allL]
theorem allL_bad {L : List (List Int)} {k j : Nat} (hk : k < L.length) (hj : j < k) (h : meetL (lA L k) (lA L j) = false) : allL L = false := by
  rw [Bool.eq_false_iff]; intro g; have := allL_t.1 g k hk j hj; rw [h] at this; cases this

end Go.Proofs.YtekjpbfmiebigaaDoor
