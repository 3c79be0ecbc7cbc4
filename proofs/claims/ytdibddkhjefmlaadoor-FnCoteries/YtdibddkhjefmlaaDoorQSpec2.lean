/-
  Groups of members, the specification's side: the contracts of spec.l6Coterie, l6Each, AllMeet, IsCoterie, Dominates, Survives.
-/
import Derived.Test.YtdibddkhjefmlaaDoorQSpec
namespace Go.Proofs.YtdibddkhjefmlaaDoor
open Go.RowKit

/-- None of the first k has all of another one. -/
def cotTo (L : List (List Int)) (k : Nat) : Prop := ∀ i, i < k → ∀ j, j < L.length → i ≠ j → hasL (lA L i) (lA L j) = false
instance (L : List (List Int)) (k : Nat) : Decidable (cotTo L k) := by unfold cotTo; infer_instance
def cotL (L : List (List Int)) : Bool := decide (cotTo L L.length) && allL L
theorem cotL_bad {L : List (List Int)} {k j : Nat} (hk : k < L.length) (hj : j < L.length) (hne : k ≠ j) (h : hasL (lA L k) (lA L j) = true) : cotL L = false := by
  rw [Bool.eq_false_iff]; intro g
  simp only [cotL, Bool.and_eq_true, decide_eq_true_eq] at g
  have := g.1 k hk j hj hne; rw [h] at this; cases this

set_option maxHeartbeats 2000000 in
theorem l6Coterie_any (a : Option Addr) (c : Nat) (L : List (List Int)) (w : World) (hs : Intss w a L) (hl : L.length ≤ maxLen) (hcap : L.length ≤ c) :
    Calls Tryd.prog 35 #[.slice a L.length c] w fun e w' => e = .returned (.bool (cotL L)) ∧ w' = w := by
  have HL : Hid (L.length ≤ maxLen) := hl
  unfold maxLen at hl
  go_enter Tryd.func35, Tryd.ntmps35
  go_wp2
  go_loop [9] (fun i => ∃ k : Nat, k ≤ L.length ∧ i = .int .i64 k ∧ cotTo L k) (fun i => L.length - (intOf i).toNat)
  case atStart => exact ⟨0, Nat.zero_le _, rfl, fun i hi => absurd hi (Nat.not_lt_zero _)⟩
  case round =>
    obtain ⟨k, hk, rfl, hok⟩ := hrel
    have HO : Hid (cotTo L k) := hok
    clear hok
    by_cases hlt : k < L.length
    · obtain ⟨b, off, ai, ci, rfl, hc, hI, hm⟩ := hs k _ (lA_get hlt)
      have HS : Hid (Intss w (some ⟨b, off, none⟩) L) := hs
      clear hs
      go_wp2
      go_loop [16] (fun i => ∃ j : Nat, j ≤ L.length ∧ i = .int .i64 j ∧ ∀ q, q < j → k ≠ q → hasL (lA L k) (lA L q) = false) (fun i => L.length - (intOf i).toNat)
      case atStart => exact ⟨0, Nat.zero_le _, rfl, fun i hi => absurd hi (Nat.not_lt_zero _)⟩
      case round =>
        obtain ⟨j, hj, rfl, hoj⟩ := hrel
        have HJ : Hid (∀ q, q < j → k ≠ q → hasL (lA L k) (lA L q) = false) := hoj
        clear hoj
        by_cases hjk : j < L.length
        · obtain ⟨b', off', aj, cj, e', hcj, hJI, hjm⟩ := HS.out j _ (lA_get (by omega))
          simp only [Option.some.injEq, Addr.mk.injEq, and_true] at e'
          obtain ⟨rfl, rfl⟩ := e'
          by_cases hkj : k = j
          · have hne : ((k : Int) != (j : Int)) = false := by simp [hkj]
            have HK : Hid (k = j) := hkj
            clear hkj
            go_wp2
            go_round
            case rel =>
              refine ⟨j + 1, by omega, by go_num, fun q hq hne => ?_⟩
              have := HK.out
              exact HJ.out q (by omega) hne
            case measure => simp [intOf]; omega
          · have hne : ((k : Int) != (j : Int)) = true := by simp; omega
            have HK : Hid (k ≠ j) := hkj
            clear hkj
            cases hb : hasL (lA L k) (lA L j) with
            | true =>
              have HE : Hid (hasL (lA L k) (lA L j) = true) := hb
              clear hb
              go_wp2_with (go_at_call 56; refine (l6Has_any _ _ _ _ _ _ _ hI hJI hm hjm).mono ?_; rintro e w' ⟨he, rfl⟩; rw [HE.out] at he; subst he)
              go_ret
              exact ⟨ret_bool (cotL_bad hlt hjk HK.out HE.out).symm, rfl⟩
            | false =>
              have HE : Hid (hasL (lA L k) (lA L j) = false) := hb
              clear hb
              go_wp2_with (go_at_call 56; refine (l6Has_any _ _ _ _ _ _ _ hI hJI hm hjm).mono ?_; rintro e w' ⟨he, rfl⟩; rw [HE.out] at he; subst he)
              go_round
              case rel =>
                refine ⟨j + 1, by omega, by go_num, fun q hq hne => ?_⟩
                by_cases e : q = j
                · subst e; exact HE.out
                · exact HJ.out q (by omega) hne
              case measure => simp [intOf]; omega
        · obtain rfl : j = L.length := by omega
          go_wp2
          go_round
          case rel =>
            refine ⟨k + 1, by omega, by go_num, fun i hi => ?_⟩
            by_cases e : i = k
            · subst e; exact HJ.out
            · exact HO.out i (by omega)
          case measure => simp [intOf]; omega
    · obtain rfl : k = L.length := by omega
      go_wp2_with (go_at_call 37; refine (l6All_any _ _ _ _ hs HL.out hcap).mono ?_; rintro e w' ⟨rfl, rfl⟩)
      go_ret
      exact ⟨ret_bool (by simp [cotL, HO.out]), rfl⟩

/-- Each of the second groups has all of one of the first. -/
def eachL (A B : List (List Int)) : Bool := B.all fun g => A.any fun h => hasL g h

theorem any_lA {A : List (List Int)} {p : List Int → Bool} : A.any p = true ↔ ∃ i, i < A.length ∧ p (lA A i) = true := by
  rw [List.any_eq_true]
  constructor
  · rintro ⟨x, hx, hp⟩
    obtain ⟨i, hi⟩ := List.getElem?_of_mem hx
    exact ⟨i, (List.getElem?_eq_some_iff.1 hi).1, by rw [lA_some hi]; exact hp⟩
  · rintro ⟨i, hi, hp⟩
    exact ⟨_, List.mem_of_getElem? (lA_get hi), hp⟩
theorem all_lA {A : List (List Int)} {p : List Int → Bool} : A.all p = true ↔ ∀ i, i < A.length → p (lA A i) = true := by
  rw [List.all_eq_true]
  constructor
  · exact fun h i hi => h _ (List.mem_of_getElem? (lA_get hi))
  · intro h x hx
    obtain ⟨i, hi⟩ := List.getElem?_of_mem hx
    have := h i (List.getElem?_eq_some_iff.1 hi).1
    rwa [lA_some hi] at this

theorem any_take {A : List (List Int)} {p : List Int → Bool} {k : Nat} (hk : k < A.length) : (A.take (k + 1)).any p = ((A.take k).any p || p (lA A k)) := by
  rw [takeL_snoc (lA_get hk), List.any_append]; simp

set_option maxHeartbeats 2000000 in
theorem l6Each_any (a a2 : Option Addr) (c c2 : Nat) (A B : List (List Int)) (w : World) (ha : Intss w a A) (hb : Intss w a2 B) (hl : A.length ≤ maxLen) (hl2 : B.length ≤ maxLen) :
    Calls Tryd.prog 42 #[.slice a A.length c, .slice a2 B.length c2] w fun e w' => e = .returned (.bool (eachL A B)) ∧ w' = w := by
  unfold maxLen at hl hl2
  go_enter Tryd.func42, Tryd.ntmps42
  go_wp2
  go_loop [12] (fun i => ∃ k : Nat, k ≤ B.length ∧ i = .int .i64 k ∧ ∀ q, q < k → (A.any fun h => hasL (lA B q) h) = true) (fun i => B.length - (intOf i).toNat)
  case atStart => exact ⟨0, Nat.zero_le _, rfl, fun i hi => absurd hi (Nat.not_lt_zero _)⟩
  case round =>
    obtain ⟨k, hk, rfl, hok⟩ := hrel
    have HO : Hid (∀ q, q < k → (A.any fun h => hasL (lA B q) h) = true) := hok
    clear hok
    by_cases hlt : k < B.length
    · obtain ⟨b, off, ai, ci, rfl, hc, hI, hm⟩ := hb k _ (lA_get hlt)
      clear hb
      go_wp2
      go_loop [7, 18] (fun f i => ∃ j : Nat, j ≤ A.length ∧ i = .int .i64 j ∧ f = .bool ((A.take j).any fun h => hasL (lA B k) h)) (fun _ i => A.length - (intOf i).toNat)
      case atStart => exact ⟨0, Nat.zero_le _, rfl, by simp⟩
      case round =>
        obtain ⟨j, hj, rfl, rfl⟩ := hrel
        by_cases hjk : j < A.length
        · obtain ⟨b', off', aj, cj, rfl, hcj, hJI, hjm⟩ := ha j _ (lA_get (by omega))
          clear ha
          have HT : Hid ((A.take (j + 1)).any (fun h => hasL (lA B k) h) = ((A.take j).any (fun h => hasL (lA B k) h) || hasL (lA B k) (lA A j))) := any_take hjk
          generalize hP : ((A.take j).any fun h => hasL (lA B k) h) = pb at HT ⊢
          clear hP
          cases pb with
          | true =>
            go_wp2
            go_round
            case rel => exact ⟨j + 1, by omega, by go_num, by rw [HT.out]; rfl⟩
            case measure => simp [intOf]; omega
          | false =>
            go_wp2_with (go_at_call 56; refine (l6Has_any _ _ _ _ _ _ _ hI hJI hm hjm).mono ?_; rintro e w' ⟨rfl, rfl⟩)
            go_round
            case rel => exact ⟨j + 1, by omega, by go_num, by rw [HT.out]; rfl⟩
            case measure => simp [intOf]; omega
        · obtain rfl : j = A.length := by omega
          rw [List.take_length]
          generalize hP : (A.any fun h => hasL (lA B k) h) = pb
          have HP : Hid ((A.any fun h => hasL (lA B k) h) = pb) := hP
          clear hP
          cases pb with
          | true =>
            go_wp2
            go_round
            case rel =>
              refine ⟨k + 1, by omega, by go_num, fun i hi => ?_⟩
              by_cases e : i = k
              · subst e; exact HP.out
              · exact HO.out i (by omega)
            case measure => simp [intOf]; omega
          | false =>
            go_wp2
            go_ret
            refine ⟨ret_bool (Eq.symm ?_), rfl⟩
            rw [Bool.eq_false_iff]; intro h
            have := all_lA.1 h k hlt
            rw [HP.out] at this; cases this
    · obtain rfl : k = B.length := by omega
      clear hb
      go_wp2
      go_ret
      exact ⟨ret_bool (all_lA.2 HO.out).symm, rfl⟩

set_option maxHeartbeats 1000000 in
theorem specAM_any (a : Option Addr) (c : Nat) (L : List (List Int)) (w : World) (hs : Intss w a L) (hl : L.length ≤ maxLen) (hcap : L.length ≤ c) :
    Calls Tryd.prog 10 #[.slice a L.length c] w fun e w' => e = .returned (.tuple #[.bool (goodL L 7 && allL L), .bool (goodL L 7)]) ∧ w' = w := by
  cases hg : goodL L 7 with
  | false =>
    have HG : Hid (goodL L 7 = false) := hg
    clear hg
    go_enter Tryd.func10, Tryd.ntmps10
    go_wp2_with (go_at_call 30; refine (l6Groups_any _ _ _ _ _ hs hl).mono ?_; rintro e w' ⟨he, rfl⟩; rw [HG.out] at he; subst he)
    go_ret2
    exact ⟨rfl, rfl⟩
  | true =>
    have HG : Hid (goodL L 7 = true) := hg
    clear hg
    go_enter Tryd.func10, Tryd.ntmps10
    go_wp2_with (first | (go_at_call 30; refine (l6Groups_any _ _ _ _ _ hs hl).mono ?_; rintro e w' ⟨he, rfl⟩; rw [HG.out] at he; subst he) | (go_at_call 37; refine (l6All_any _ _ _ _ hs hl hcap).mono ?_; rintro e w' ⟨rfl, rfl⟩))
    go_ret2
    exact ⟨rfl, rfl⟩

set_option maxHeartbeats 1000000 in
theorem specIC_any (a : Option Addr) (c : Nat) (L : List (List Int)) (w : World) (hs : Intss w a L) (hl : L.length ≤ maxLen) (hcap : L.length ≤ c) :
    Calls Tryd.prog 8 #[.slice a L.length c] w fun e w' => e = .returned (.tuple #[.bool (goodL L 7 && cotL L), .bool (goodL L 7)]) ∧ w' = w := by
  cases hg : goodL L 7 with
  | false =>
    have HG : Hid (goodL L 7 = false) := hg
    clear hg
    go_enter Tryd.func8, Tryd.ntmps8
    go_wp2_with (go_at_call 30; refine (l6Groups_any _ _ _ _ _ hs hl).mono ?_; rintro e w' ⟨he, rfl⟩; rw [HG.out] at he; subst he)
    go_ret2
    exact ⟨rfl, rfl⟩
  | true =>
    have HG : Hid (goodL L 7 = true) := hg
    clear hg
    go_enter Tryd.func8, Tryd.ntmps8
    go_wp2_with (first | (go_at_call 30; refine (l6Groups_any _ _ _ _ _ hs hl).mono ?_; rintro e w' ⟨he, rfl⟩; rw [HG.out] at he; subst he) | (go_at_call 35; refine (l6Coterie_any _ _ _ _ hs hl hcap).mono ?_; rintro e w' ⟨rfl, rfl⟩))
    go_ret2
    exact ⟨rfl, rfl⟩

def domOk (A B : List (List Int)) : Bool := goodL A 7 && goodL B 7 && cotL A && cotL B

set_option maxHeartbeats 2000000 in
theorem specDom_any (a a2 : Option Addr) (c c2 : Nat) (A B : List (List Int)) (w : World) (ha : Intss w a A) (hb : Intss w a2 B) (hl : A.length ≤ maxLen) (hl2 : B.length ≤ maxLen) (hc1 : A.length ≤ c) (hc2 : B.length ≤ c2) :
    Calls Tryd.prog 16 #[.slice a A.length c, .slice a2 B.length c2] w fun e w' => e = .returned (.tuple #[.bool (domOk A B && (eachL A B && !eachL B A)), .bool (domOk A B)]) ∧ w' = w := by
  unfold domOk
  generalize h1 : goodL A 7 = g1
  generalize h2 : goodL B 7 = g2
  generalize h3 : cotL A = g3
  generalize h4 : cotL B = g4
  generalize h5 : eachL A B = g5
  have H1 : Hid (goodL A 7 = g1) := h1
  have H2 : Hid (goodL B 7 = g2) := h2
  have H3 : Hid (cotL A = g3) := h3
  have H4 : Hid (cotL B = g4) := h4
  have H5 : Hid (eachL A B = g5) := h5
  clear h1 h2 h3 h4 h5
  -- begin dom
  cases g1 with
  | false =>
    go_enter Tryd.func16, Tryd.ntmps16
    go_wp2_with (first
      | (go_at_call 30; refine (l6Groups_any _ _ _ _ _ (by first | exact ha | exact hb) (by first | exact hl | exact hl2)).mono ?_; rintro e w' ⟨he, rfl⟩; (first | rw [H1.out] at he | rw [H2.out] at he); subst he)
      | (go_at_call 35; refine (l6Coterie_any _ _ _ _ (by first | exact ha | exact hb) (by first | exact hl | exact hl2) (by first | exact hc1 | exact hc2)).mono ?_; rintro e w' ⟨he, rfl⟩; (first | rw [H3.out] at he | rw [H4.out] at he); subst he)
      | (go_at_call 42; refine (l6Each_any _ _ _ _ _ _ _ (by first | exact ha | exact hb) (by first | exact ha | exact hb) (by first | exact hl | exact hl2) (by first | exact hl | exact hl2)).mono ?_; rintro e w' ⟨he, rfl⟩; (first | rw [H5.out] at he | skip); subst he))
    go_ret2
    exact ⟨rfl, rfl⟩
  | true =>
  cases g2 with
  | false =>
    go_enter Tryd.func16, Tryd.ntmps16
    go_wp2_with (first
      | (go_at_call 30; refine (l6Groups_any _ _ _ _ _ (by first | exact ha | exact hb) (by first | exact hl | exact hl2)).mono ?_; rintro e w' ⟨he, rfl⟩; (first | rw [H1.out] at he | rw [H2.out] at he); subst he)
      | (go_at_call 35; refine (l6Coterie_any _ _ _ _ (by first | exact ha | exact hb) (by first | exact hl | exact hl2) (by first | exact hc1 | exact hc2)).mono ?_; rintro e w' ⟨he, rfl⟩; (first | rw [H3.out] at he | rw [H4.out] at he); subst he)
      | (go_at_call 42; refine (l6Each_any _ _ _ _ _ _ _ (by first | exact ha | exact hb) (by first | exact ha | exact hb) (by first | exact hl | exact hl2) (by first | exact hl | exact hl2)).mono ?_; rintro e w' ⟨he, rfl⟩; (first | rw [H5.out] at he | skip); subst he))
    go_ret2
    exact ⟨rfl, rfl⟩
  | true =>
  cases g3 with
  | false =>
    go_enter Tryd.func16, Tryd.ntmps16
    go_wp2_with (first
      | (go_at_call 30; refine (l6Groups_any _ _ _ _ _ (by first | exact ha | exact hb) (by first | exact hl | exact hl2)).mono ?_; rintro e w' ⟨he, rfl⟩; (first | rw [H1.out] at he | rw [H2.out] at he); subst he)
      | (go_at_call 35; refine (l6Coterie_any _ _ _ _ (by first | exact ha | exact hb) (by first | exact hl | exact hl2) (by first | exact hc1 | exact hc2)).mono ?_; rintro e w' ⟨he, rfl⟩; (first | rw [H3.out] at he | rw [H4.out] at he); subst he)
      | (go_at_call 42; refine (l6Each_any _ _ _ _ _ _ _ (by first | exact ha | exact hb) (by first | exact ha | exact hb) (by first | exact hl | exact hl2) (by first | exact hl | exact hl2)).mono ?_; rintro e w' ⟨he, rfl⟩; (first | rw [H5.out] at he | skip); subst he))
    go_ret2
    exact ⟨rfl, rfl⟩
  | true =>
  cases g4 with
  | false =>
    go_enter Tryd.func16, Tryd.ntmps16
    go_wp2_with (first
      | (go_at_call 30; refine (l6Groups_any _ _ _ _ _ (by first | exact ha | exact hb) (by first | exact hl | exact hl2)).mono ?_; rintro e w' ⟨he, rfl⟩; (first | rw [H1.out] at he | rw [H2.out] at he); subst he)
      | (go_at_call 35; refine (l6Coterie_any _ _ _ _ (by first | exact ha | exact hb) (by first | exact hl | exact hl2) (by first | exact hc1 | exact hc2)).mono ?_; rintro e w' ⟨he, rfl⟩; (first | rw [H3.out] at he | rw [H4.out] at he); subst he)
      | (go_at_call 42; refine (l6Each_any _ _ _ _ _ _ _ (by first | exact ha | exact hb) (by first | exact ha | exact hb) (by first | exact hl | exact hl2) (by first | exact hl | exact hl2)).mono ?_; rintro e w' ⟨he, rfl⟩; (first | rw [H5.out] at he | skip); subst he))
    go_ret2
    exact ⟨rfl, rfl⟩
  | true =>
  cases g5 with
  | false =>
    go_enter Tryd.func16, Tryd.ntmps16
    go_wp2_with (first
      | (go_at_call 30; refine (l6Groups_any _ _ _ _ _ (by first | exact ha | exact hb) (by first | exact hl | exact hl2)).mono ?_; rintro e w' ⟨he, rfl⟩; (first | rw [H1.out] at he | rw [H2.out] at he); subst he)
      | (go_at_call 35; refine (l6Coterie_any _ _ _ _ (by first | exact ha | exact hb) (by first | exact hl | exact hl2) (by first | exact hc1 | exact hc2)).mono ?_; rintro e w' ⟨he, rfl⟩; (first | rw [H3.out] at he | rw [H4.out] at he); subst he)
      | (go_at_call 42; refine (l6Each_any _ _ _ _ _ _ _ (by first | exact ha | exact hb) (by first | exact ha | exact hb) (by first | exact hl | exact hl2) (by first | exact hl | exact hl2)).mono ?_; rintro e w' ⟨he, rfl⟩; (first | rw [H5.out] at he | skip); subst he))
    go_ret2
    exact ⟨rfl, rfl⟩
  | true =>
    go_enter Tryd.func16, Tryd.ntmps16
    go_wp2_with (first
      | (go_at_call 30; refine (l6Groups_any _ _ _ _ _ (by first | exact ha | exact hb) (by first | exact hl | exact hl2)).mono ?_; rintro e w' ⟨he, rfl⟩; (first | rw [H1.out] at he | rw [H2.out] at he); subst he)
      | (go_at_call 35; refine (l6Coterie_any _ _ _ _ (by first | exact ha | exact hb) (by first | exact hl | exact hl2) (by first | exact hc1 | exact hc2)).mono ?_; rintro e w' ⟨he, rfl⟩; (first | rw [H3.out] at he | rw [H4.out] at he); subst he)
      | (go_at_call 42; refine (l6Each_any _ _ _ _ _ _ _ (by first | exact ha | exact hb) (by first | exact ha | exact hb) (by first | exact hl | exact hl2) (by first | exact hl | exact hl2)).mono ?_; rintro e w' ⟨he, rfl⟩; (first | rw [H5.out] at he | skip); subst he))
    go_ret2
    exact ⟨rfl, rfl⟩

def survL (L : List (List Int)) (f : List Int) : Bool := L.any fun g => !meetL g f

set_option maxHeartbeats 2000000 in
theorem specSv_any (a a2 : Option Addr) (c c2 : Nat) (L : List (List Int)) (f : List Int) (w : World) (hs : Intss w a L) (hf : Ints w a2 f) (hl : L.length ≤ maxLen) (hl2 : f.length ≤ maxLen) :
    Calls Tryd.prog 18 #[.slice a L.length c, .slice a2 f.length c2] w fun e w' => e = .returned (.tuple #[.bool (goodL L 7 && riseB f 7 && survL L f), .bool (goodL L 7 && riseB f 7)]) ∧ w' = w := by
  have HL : Hid (L.length ≤ maxLen) := hl
  unfold maxLen at hl
  generalize h1 : goodL L 7 = g1
  generalize h2 : riseB f 7 = g2
  have H1 : Hid (goodL L 7 = g1) := h1
  have H2 : Hid (riseB f 7 = g2) := h2
  clear h1 h2
  cases g1 with
  | false =>
    go_enter Tryd.func18, Tryd.ntmps18
    go_wp2_with (first
      | (go_at_call 30; refine (l6Groups_any _ _ _ _ _ hs HL.out).mono ?_; rintro e w' ⟨he, rfl⟩; rw [H1.out] at he; subst he)
      | (go_at_call 44; refine (l6Group_any _ _ _ _ _ hf hl2).mono ?_; rintro e w' ⟨he, rfl⟩; rw [H2.out] at he; subst he))
    go_ret2
    exact ⟨rfl, rfl⟩
  | true =>
  cases g2 with
  | false =>
    go_enter Tryd.func18, Tryd.ntmps18
    go_wp2_with (first
      | (go_at_call 30; refine (l6Groups_any _ _ _ _ _ hs HL.out).mono ?_; rintro e w' ⟨he, rfl⟩; rw [H1.out] at he; subst he)
      | (go_at_call 44; refine (l6Group_any _ _ _ _ _ hf hl2).mono ?_; rintro e w' ⟨he, rfl⟩; rw [H2.out] at he; subst he))
    go_ret2
    exact ⟨rfl, rfl⟩
  | true =>
    go_enter Tryd.func18, Tryd.ntmps18
    go_wp2_with (first
      | (go_at_call 30; refine (l6Groups_any _ _ _ _ _ hs HL.out).mono ?_; rintro e w' ⟨he, rfl⟩; rw [H1.out] at he; subst he)
      | (go_at_call 44; refine (l6Group_any _ _ _ _ _ hf hl2).mono ?_; rintro e w' ⟨he, rfl⟩; rw [H2.out] at he; subst he))
    go_loop [18] (fun i => ∃ k : Nat, k ≤ L.length ∧ i = .int .i64 k ∧ ∀ q, q < k → meetL (lA L q) f = true) (fun i => L.length - (intOf i).toNat)
    case atStart => exact ⟨0, Nat.zero_le _, rfl, fun i hi => absurd hi (Nat.not_lt_zero _)⟩
    case round =>
      obtain ⟨k, hk, rfl, hok⟩ := hrel
      have HO : Hid (∀ q, q < k → meetL (lA L q) f = true) := hok
      clear hok
      by_cases hlt : k < L.length
      · obtain ⟨b, off, ai, ci, rfl, hc, hI, hm⟩ := hs k _ (lA_get hlt)
        clear hs
        generalize hb : meetL (lA L k) f = pb
        have HE : Hid (meetL (lA L k) f = pb) := hb
        clear hb
        cases pb with
        | false =>
          go_wp2_with (go_at_call 45; refine (l6Meet_any _ _ _ _ _ _ _ hI hf hm hl2).mono ?_; rintro e w' ⟨he, rfl⟩; rw [HE.out] at he; subst he)
          go_ret2
          have e : survL L f = true := any_lA.2 ⟨k, hlt, by rw [HE.out]; rfl⟩
          exact ⟨by rw [e]; rfl, rfl⟩
        | true =>
          go_wp2_with (go_at_call 45; refine (l6Meet_any _ _ _ _ _ _ _ hI hf hm hl2).mono ?_; rintro e w' ⟨he, rfl⟩; rw [HE.out] at he; subst he)
          go_round
          case rel =>
            refine ⟨k + 1, by omega, by go_num, fun i hi => ?_⟩
            by_cases e : i = k
            · subst e; exact HE.out
            · exact HO.out i (by omega)
          case measure => simp [intOf]; omega
      · obtain rfl : k = L.length := by omega
        clear hs
        go_wp2
        go_ret2
        have e : survL L f = false := by
          rw [Bool.eq_false_iff]; intro h
          obtain ⟨i, hi, h⟩ := any_lA.1 h
          rw [HO.out i hi] at h; cases h
        exact ⟨by rw [e]; rfl, rfl⟩

end Go.Proofs.YtdibddkhjefmlaaDoor
