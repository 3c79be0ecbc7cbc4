/-
  Groups of members, the specification's side: the contracts of spec.l1Has, l6Group, l6Groups, l6Meet, l6All, l6Has, l6Coterie, l6Each.
-/
import Derived.Test.YtdibddkhjefmlaaDoorIss
namespace Go.Proofs.YtdibddkhjefmlaaDoor
open Go.RowKit

theorem zA_mem {zs : List Int} {n : Int} : n ∈ zs ↔ ∃ i, i < zs.length ∧ zA zs i = n := by
  constructor
  · intro h
    obtain ⟨i, hi⟩ := List.getElem?_of_mem h
    exact ⟨i, (List.getElem?_eq_some_iff.1 hi).1, zA_some hi⟩
  · rintro ⟨i, hi, rfl⟩
    exact List.mem_of_getElem? (zA_get hi)

set_option maxHeartbeats 1000000 in
theorem l1Has_any (a : Option Addr) (c : Nat) (zs : List Int) (n : Int) (w : World) (hs : Ints w a zs) (hl : zs.length ≤ maxLen) :
    Calls Tryd.prog 58 #[.slice a zs.length c, .int .i64 n] w fun e w' => e = .returned (.bool (zs.contains n)) ∧ w' = w := by
  unfold maxLen at hl
  go_enter Tryd.func58, Tryd.ntmps58
  go_wp2
  go_loop [9] (fun i => ∃ k : Nat, k ≤ zs.length ∧ i = .int .i64 k ∧ ∀ j, j < k → zA zs j ≠ n) (fun i => zs.length - (intOf i).toNat)
  case atStart => exact ⟨0, Nat.zero_le _, rfl, fun i hi => absurd hi (Nat.not_lt_zero _)⟩
  case round =>
    obtain ⟨k, hk, rfl, hok⟩ := hrel
    have HO : Hid (∀ j, j < k → zA zs j ≠ n) := hok
    clear hok
    by_cases hlt : k < zs.length
    · obtain ⟨b, off, rfl, hc⟩ := hs k _ (zA_get hlt)
      clear hs
      by_cases he : zA zs k = n
      · have hb : (zA zs k == n) = true := by simp [he]
        have HE : Hid (zA zs k = n) := he
        clear he
        go_wp2
        go_ret
        exact ⟨ret_bool (by have := zA_mem.2 ⟨k, hlt, HE.out⟩; simp [this]), rfl⟩
      · have hb : (zA zs k == n) = false := by simp [he]
        have HE : Hid (zA zs k ≠ n) := he
        clear he
        go_wp2
        go_round
        case rel =>
          refine ⟨k + 1, by omega, by go_num, fun j hj => ?_⟩
          by_cases e : j = k
          · subst e; exact HE.out
          · exact HO.out j (by omega)
        case measure => simp [intOf]; omega
    · obtain rfl : k = zs.length := by omega
      clear hs
      go_wp2
      go_ret
      refine ⟨ret_bool (Eq.symm ?_), rfl⟩
      rw [Bool.eq_false_iff]
      intro h
      obtain ⟨i, hi, e⟩ := zA_mem.1 (show n ∈ zs by simpa using h)
      exact HO.out i hi e

set_option maxHeartbeats 1000000 in
theorem l6Group_any (a : Option Addr) (c : Nat) (zs : List Int) (many : Int) (w : World) (hs : Ints w a zs) (hl : zs.length ≤ maxLen) :
    Calls Tryd.prog 44 #[.slice a zs.length c, .int .i64 many] w fun e w' => e = .returned (.bool (riseB zs many)) ∧ w' = w := by
  unfold maxLen at hl
  go_enter Tryd.func44, Tryd.ntmps44
  go_wp2
  go_loop [9] (fun i => ∃ k : Nat, k ≤ zs.length ∧ i = .int .i64 k ∧ riseTo zs many k) (fun i => zs.length - (intOf i).toNat)
  case atStart => exact ⟨0, Nat.zero_le _, rfl, fun i hi => absurd hi (Nat.not_lt_zero _)⟩
  case round =>
    obtain ⟨k, hk, rfl, hok⟩ := hrel
    have HO : Hid (riseTo zs many k) := hok
    clear hok
    by_cases hlt : k < zs.length
    · obtain ⟨b, off, rfl, hc⟩ := hs k _ (zA_get hlt)
      by_cases h1 : zA zs k < 0
      · clear hs
        go_wp2
        go_ret
        exact ⟨ret_bool (riseB_f hlt (fun h => by omega)).symm, rfl⟩
      by_cases h2 : many ≤ zA zs k
      · clear hs
        go_wp2
        go_ret
        exact ⟨ret_bool (riseB_f hlt (fun h => by omega)).symm, rfl⟩
      rcases Nat.eq_zero_or_pos k with h0 | h0
      · subst h0
        rw [Nat.add_zero] at hc
        clear hs
        go_wp2
        go_round
        case rel => exact ⟨1, by omega, rfl, riseTo_succ HO.out (by omega) (by omega) (fun h => absurd h (Nat.lt_irrefl _))⟩
        case measure => simp [intOf]; omega
      · obtain ⟨j, rfl⟩ : ∃ j, k = j + 1 := ⟨k - 1, by omega⟩
        obtain ⟨b', off', e', hc'⟩ := hs j _ (zA_get (by omega))
        simp only [Option.some.injEq, Addr.mk.injEq, and_true] at e'
        obtain ⟨rfl, rfl⟩ := e'
        have hz : (0 : Int) < (((j + 1 : Nat) : Int)) := by omega
        have hj1 : ((j + 1 : Nat) : Int) - 1 = (j : Int) := by omega
        clear hs
        by_cases hle : zA zs (j + 1) ≤ zA zs j
        · go_wp2
          go_ret
          exact ⟨ret_bool (riseB_f hlt (fun h => by have := h.2.2 (by omega); simp at this; omega)).symm, rfl⟩
        · go_wp2
          go_round
          case rel => exact ⟨j + 1 + 1, by omega, by go_num, riseTo_succ HO.out (by omega) (by omega) (fun h => by simp; omega)⟩
          case measure => simp [intOf]; omega
    · obtain rfl : k = zs.length := by omega
      clear hs
      go_wp2
      go_ret
      exact ⟨ret_bool (riseB_t.2 HO.out).symm, rfl⟩

def lA (L : List (List Int)) (i : Nat) : List Int := L.getD i []
theorem lA_some {L : List (List Int)} {k : Nat} {z : List Int} (h : L[k]? = some z) : lA L k = z := by
  unfold lA; rw [List.getD_eq_getElem?_getD, h]; rfl
theorem lA_get {L : List (List Int)} {k : Nat} (h : k < L.length) : L[k]? = some (lA L k) := by
  unfold lA; rw [List.getD_eq_getElem?_getD, List.getElem?_eq_getElem h]; rfl

/-- The first k groups are good. -/
def grTo (L : List (List Int)) (many : Int) (k : Nat) : Prop := ∀ i, i < k → 0 < (lA L i).length ∧ riseB (lA L i) many = true
instance (L : List (List Int)) (many : Int) (k : Nat) : Decidable (grTo L many k) := by unfold grTo; infer_instance
def goodL (L : List (List Int)) (many : Int) : Bool := decide (grTo L many L.length) && decide (L.length ≤ 40)
theorem goodL_t {L : List (List Int)} {many : Int} : goodL L many = true ↔ grTo L many L.length ∧ L.length ≤ 40 := by simp [goodL]
theorem goodL_bad {L : List (List Int)} {many : Int} {k : Nat} (hk : k < L.length) (h : ¬ (0 < (lA L k).length ∧ riseB (lA L k) many = true)) : goodL L many = false := by
  rw [Bool.eq_false_iff]; intro g; exact h ((goodL_t.1 g).1 k hk)
theorem grTo_succ {L : List (List Int)} {many : Int} {k : Nat} (h : grTo L many k) (h0 : 0 < (lA L k).length) (h1 : riseB (lA L k) many = true) : grTo L many (k + 1) := fun i hi => by
  by_cases e : i = k
  · subst e; exact ⟨h0, h1⟩
  · exact h i (by omega)

set_option maxHeartbeats 1000000 in
theorem l6Groups_any (a : Option Addr) (c : Nat) (L : List (List Int)) (many : Int) (w : World) (hs : Intss w a L) (hl : L.length ≤ maxLen) :
    Calls Tryd.prog 30 #[.slice a L.length c, .int .i64 many] w fun e w' => e = .returned (.bool (goodL L many)) ∧ w' = w := by
  unfold maxLen at hl
  go_enter Tryd.func30, Tryd.ntmps30
  go_wp2
  go_loop [9] (fun i => ∃ k : Nat, k ≤ L.length ∧ i = .int .i64 k ∧ grTo L many k) (fun i => L.length - (intOf i).toNat)
  case atStart => exact ⟨0, Nat.zero_le _, rfl, fun i hi => absurd hi (Nat.not_lt_zero _)⟩
  case round =>
    obtain ⟨k, hk, rfl, hok⟩ := hrel
    have HO : Hid (grTo L many k) := hok
    clear hok
    by_cases hlt : k < L.length
    · obtain ⟨b, off, ai, ci, rfl, hc, hI, hm⟩ := hs k _ (lA_get hlt)
      clear hs
      by_cases h0 : (lA L k).length = 0
      · have hz : (((lA L k).length : Int) == 0) = true := by simp [h0]
        have HB : Hid (goodL L many = false) := goodL_bad hlt (fun h => by omega)
        clear h0
        go_wp2
        go_ret
        exact ⟨ret_bool HB.out.symm, rfl⟩
      · have hz : (((lA L k).length : Int) == 0) = false := by simp only [beq_eq_false_iff_ne]; omega
        have hp : 0 < (lA L k).length := by omega
        clear h0
        by_cases hr : riseB (lA L k) many = true
        · have HR : Hid (riseB (lA L k) many = true) := hr
          clear hr
          go_wp2_with (go_at_call 44; refine (l6Group_any _ _ _ _ _ hI hm).mono ?_; rintro e w' ⟨he, rfl⟩; rw [HR.out] at he; subst he)
          go_round
          case rel => exact ⟨k + 1, by omega, by go_num, grTo_succ HO.out hp HR.out⟩
          case measure => simp [intOf]; omega
        · have HR : Hid (riseB (lA L k) many = false) := by show _ = _; simpa using hr
          clear hr
          go_wp2_with (go_at_call 44; refine (l6Group_any _ _ _ _ _ hI hm).mono ?_; rintro e w' ⟨he, rfl⟩; rw [HR.out] at he; subst he)
          go_ret
          exact ⟨ret_bool (goodL_bad hlt (fun h => by rw [HR.out] at h; simp at h)).symm, rfl⟩
    · obtain rfl : k = L.length := by omega
      clear hs
      go_wp2
      go_ret
      refine ⟨ret_bool ?_, rfl⟩
      have := HO.out
      by_cases h40 : L.length ≤ 40
      · rw [goodL_t.2 ⟨this, h40⟩]; simp; omega
      · rw [show goodL L many = false by simp [goodL]; omega]; simp; omega

set_option maxHeartbeats 1000000 in
theorem l6Meet_any (a a2 : Option Addr) (c c2 : Nat) (xs ys : List Int) (w : World) (hx : Ints w a xs) (hy : Ints w a2 ys) (hl : xs.length ≤ maxLen) (hl2 : ys.length ≤ maxLen) :
    Calls Tryd.prog 45 #[.slice a xs.length c, .slice a2 ys.length c2] w fun e w' => e = .returned (.bool (meetL xs ys)) ∧ w' = w := by
  unfold maxLen at hl
  go_enter Tryd.func45, Tryd.ntmps45
  go_wp2
  go_loop [9] (fun i => ∃ k : Nat, k ≤ xs.length ∧ i = .int .i64 k ∧ ∀ j, j < k → ys.contains (zA xs j) = false) (fun i => xs.length - (intOf i).toNat)
  case atStart => exact ⟨0, Nat.zero_le _, rfl, fun i hi => absurd hi (Nat.not_lt_zero _)⟩
  case round =>
    obtain ⟨k, hk, rfl, hok⟩ := hrel
    have HO : Hid (∀ j, j < k → ys.contains (zA xs j) = false) := hok
    clear hok
    by_cases hlt : k < xs.length
    · obtain ⟨b, off, rfl, hc⟩ := hx k _ (zA_get hlt)
      clear hx
      cases hb : ys.contains (zA xs k) with
      | true =>
        have HE : Hid (ys.contains (zA xs k) = true) := hb
        clear hb
        go_wp2_with (go_at_call 58; refine (l1Has_any _ _ _ _ _ hy hl2).mono ?_; rintro e w' ⟨he, rfl⟩; rw [HE.out] at he; subst he)
        go_ret
        refine ⟨ret_bool (Eq.symm ?_), rfl⟩
        exact List.any_eq_true.2 ⟨_, zA_mem.2 ⟨k, hlt, rfl⟩, HE.out⟩
      | false =>
        have HE : Hid (ys.contains (zA xs k) = false) := hb
        clear hb
        go_wp2_with (go_at_call 58; refine (l1Has_any _ _ _ _ _ hy hl2).mono ?_; rintro e w' ⟨he, rfl⟩; rw [HE.out] at he; subst he)
        go_round
        case rel =>
          refine ⟨k + 1, by omega, by go_num, fun j hj => ?_⟩
          by_cases e : j = k
          · subst e; exact HE.out
          · exact HO.out j (by omega)
        case measure => simp [intOf]; omega
    · obtain rfl : k = xs.length := by omega
      clear hx
      go_wp2
      go_ret
      refine ⟨ret_bool (Eq.symm ?_), rfl⟩
      rw [Bool.eq_false_iff]
      intro h
      obtain ⟨z, hz, e⟩ := List.any_eq_true.1 h
      obtain ⟨i, hi, rfl⟩ := zA_mem.1 hz
      rw [HO.out i hi] at e
      cases e

set_option maxHeartbeats 1000000 in
theorem l6Has_any (a a2 : Option Addr) (c c2 : Nat) (xs ys : List Int) (w : World) (hx : Ints w a xs) (hy : Ints w a2 ys) (hl : xs.length ≤ maxLen) (hl2 : ys.length ≤ maxLen) :
    Calls Tryd.prog 56 #[.slice a xs.length c, .slice a2 ys.length c2] w fun e w' => e = .returned (.bool (hasL xs ys)) ∧ w' = w := by
  unfold maxLen at hl2
  go_enter Tryd.func56, Tryd.ntmps56
  go_wp2
  go_loop [9] (fun i => ∃ k : Nat, k ≤ ys.length ∧ i = .int .i64 k ∧ ∀ j, j < k → xs.contains (zA ys j) = true) (fun i => ys.length - (intOf i).toNat)
  case atStart => exact ⟨0, Nat.zero_le _, rfl, fun i hi => absurd hi (Nat.not_lt_zero _)⟩
  case round =>
    obtain ⟨k, hk, rfl, hok⟩ := hrel
    have HO : Hid (∀ j, j < k → xs.contains (zA ys j) = true) := hok
    clear hok
    by_cases hlt : k < ys.length
    · obtain ⟨b, off, rfl, hc⟩ := hy k _ (zA_get hlt)
      clear hy
      cases hb : xs.contains (zA ys k) with
      | false =>
        have HE : Hid (xs.contains (zA ys k) = false) := hb
        clear hb
        go_wp2_with (go_at_call 58; refine (l1Has_any _ _ _ _ _ hx hl).mono ?_; rintro e w' ⟨he, rfl⟩; rw [HE.out] at he; subst he)
        go_ret
        refine ⟨ret_bool (Eq.symm ?_), rfl⟩
        rw [Bool.eq_false_iff]
        intro h
        have := List.all_eq_true.1 h _ (zA_mem.2 ⟨k, hlt, rfl⟩)
        rw [HE.out] at this
        cases this
      | true =>
        have HE : Hid (xs.contains (zA ys k) = true) := hb
        clear hb
        go_wp2_with (go_at_call 58; refine (l1Has_any _ _ _ _ _ hx hl).mono ?_; rintro e w' ⟨he, rfl⟩; rw [HE.out] at he; subst he)
        go_round
        case rel =>
          refine ⟨k + 1, by omega, by go_num, fun j hj => ?_⟩
          by_cases e : j = k
          · subst e; exact HE.out
          · exact HO.out j (by omega)
        case measure => simp [intOf]; omega
    · obtain rfl : k = ys.length := by omega
      clear hy
      go_wp2
      go_ret
      refine ⟨ret_bool (Eq.symm ?_), rfl⟩
      refine List.all_eq_true.2 fun z hz => ?_
      obtain ⟨i, hi, rfl⟩ := zA_mem.1 hz
      exact HO.out i hi

/-- Each of the first k meets those ahead of it. -/
def metTo (L : List (List Int)) (k : Nat) : Prop := ∀ i, i < k → ∀ j, j < i → meetL (lA L i) (lA L j) = true
instance (L : List (List Int)) (k : Nat) : Decidable (metTo L k) := by unfold metTo; infer_instance
def allL (L : List (List Int)) : Bool := decide (metTo L L.length)
theorem allL_t {L : List (List Int)} : allL L = true ↔ metTo L L.length := by simp [allL]
theorem allL_bad {L : List (List Int)} {k j : Nat} (hk : k < L.length) (hj : j < k) (h : meetL (lA L k) (lA L j) = false) : allL L = false := by
  rw [Bool.eq_false_iff]; intro g; have := allL_t.1 g k hk j hj; rw [h] at this; cases this

set_option maxHeartbeats 1000000 in
theorem l6All_any (a : Option Addr) (c : Nat) (L : List (List Int)) (w : World) (hs : Intss w a L) (hl : L.length ≤ maxLen) (hcap : L.length ≤ c) :
    Calls Tryd.prog 37 #[.slice a L.length c] w fun e w' => e = .returned (.bool (allL L)) ∧ w' = w := by
  unfold maxLen at hl
  go_enter Tryd.func37, Tryd.ntmps37
  go_wp2
  go_loop [9] (fun i => ∃ k : Nat, k ≤ L.length ∧ i = .int .i64 k ∧ metTo L k) (fun i => L.length - (intOf i).toNat)
  case atStart => exact ⟨0, Nat.zero_le _, rfl, fun i hi => absurd hi (Nat.not_lt_zero _)⟩
  case round =>
    obtain ⟨k, hk, rfl, hok⟩ := hrel
    have HO : Hid (metTo L k) := hok
    clear hok
    by_cases hlt : k < L.length
    · obtain ⟨b, off, ai, ci, rfl, hc, hI, hm⟩ := hs k _ (lA_get hlt)
      have hkc : (k : Int) ≤ (c : Int) := by omega
      have HS : Hid (Intss w (some ⟨b, off, none⟩) L) := hs
      clear hs
      go_wp2
      go_loop [18] (fun i => ∃ j : Nat, j ≤ k ∧ i = .int .i64 j ∧ ∀ q, q < j → meetL (lA L k) (lA L q) = true) (fun i => k - (intOf i).toNat)
      case atStart => exact ⟨0, Nat.zero_le _, rfl, fun i hi => absurd hi (Nat.not_lt_zero _)⟩
      case round =>
        obtain ⟨j, hj, rfl, hoj⟩ := hrel
        have HJ : Hid (∀ q, q < j → meetL (lA L k) (lA L q) = true) := hoj
        clear hoj
        by_cases hjk : j < k
        · obtain ⟨b', off', aj, cj, e', hcj, hJI, hjm⟩ := HS.out j _ (lA_get (by omega))
          simp only [Option.some.injEq, Addr.mk.injEq, and_true] at e'
          obtain ⟨rfl, rfl⟩ := e'
          cases hb : meetL (lA L k) (lA L j) with
          | false =>
            have HE : Hid (meetL (lA L k) (lA L j) = false) := hb
            clear hb
            go_wp2_with (go_at_call 45; refine (l6Meet_any _ _ _ _ _ _ _ hI hJI hm hjm).mono ?_; rintro e w' ⟨he, rfl⟩; rw [HE.out] at he; subst he)
            go_ret
            exact ⟨ret_bool (allL_bad hlt hjk HE.out).symm, rfl⟩
          | true =>
            have HE : Hid (meetL (lA L k) (lA L j) = true) := hb
            clear hb
            go_wp2_with (go_at_call 45; refine (l6Meet_any _ _ _ _ _ _ _ hI hJI hm hjm).mono ?_; rintro e w' ⟨he, rfl⟩; rw [HE.out] at he; subst he)
            go_round
            case rel =>
              refine ⟨j + 1, by omega, by go_num, fun q hq => ?_⟩
              by_cases e : q = j
              · subst e; exact HE.out
              · exact HJ.out q (by omega)
            case measure => simp [intOf]; omega
        · obtain rfl : j = k := by omega
          go_wp2
          go_round
          case rel =>
            refine ⟨j + 1, by omega, by go_num, fun i hi => ?_⟩
            by_cases e : i = j
            · subst e; exact HJ.out
            · exact HO.out i (by omega)
          case measure => simp [intOf]; omega
    · obtain rfl : k = L.length := by omega
      clear hs
      go_wp2
      go_ret
      exact ⟨ret_bool (allL_t.2 HO.out).symm, rfl⟩

end Go.Proofs.YtdibddkhjefmlaaDoor
