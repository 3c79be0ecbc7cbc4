/-
  Votes as a call reads them: the contracts of szIntS, szVotes, toVotes, eqVotes; spec.GoodVotes and impl.GoodVotes answer the same Bool, 'goodV'.
-/
import Derived.Test.YtdibddkhjefmlaaDoorQMath
namespace Go.Proofs.YtdibddkhjefmlaaDoor
open Go.RowKit

/-- A value of Votes: the weights lie at 'a'. -/
abbrev votV (zs : List Int) (need : Int) (a : Option Addr) (c : Nat) : Value := .agg #[.slice a zs.length c, .int .i64 need]

def szI (n : Nat) (left : Int) : Int := if left - n < 0 then -1 else left - n

theorem szI_bound {n : Nat} {left : Int} (h : 0 ≤ szI n left) : (n : Int) ≤ left ∧ szI n left = left - n := by
  unfold szI at h ⊢; split at h <;> split <;> omega

theorem szI_range (n : Nat) {left : Int} (h0 : 0 ≤ left) : -1 ≤ szI n left ∧ szI n left ≤ left := by
  unfold szI; split <;> omega

theorem bcell6 {W w1 : World} (hb : Below W.heap.size W w1) : (∀ b o, b < W.heap.size → w1.cell? ⟨b, o, none⟩ = W.cell? ⟨b, o, none⟩) ∧ (∀ b o, b < W.heap.size → w1.frozen? ⟨b, o, none⟩ = W.frozen? ⟨b, o, none⟩) :=
  ⟨fun b o h => hb.cell (p := ⟨b, o, none⟩) h, fun b o h => hb.frozen (p := ⟨b, o, none⟩) h⟩

/-- Whether votes are good. -/
def okV (zs : List Int) (k : Nat) : Prop := ∀ i, i < k → 0 ≤ zA zs i ∧ zA zs i ≤ 9
instance (zs : List Int) (k : Nat) : Decidable (okV zs k) := by unfold okV; infer_instance
def goodV (zs : List Int) (need : Int) : Bool := decide (okV zs zs.length) && inB zs.length 1 7 && inB need 1 100

theorem goodV_t {zs : List Int} {need : Int} : goodV zs need = true ↔ okV zs zs.length ∧ (1 ≤ zs.length ∧ zs.length ≤ 7) ∧ 1 ≤ need ∧ need ≤ 100 := by
  simp only [goodV, Bool.and_eq_true, decide_eq_true_eq, inB_t]
  exact ⟨fun h => ⟨h.1.1, by omega, h.2⟩, fun h => ⟨⟨h.1, by omega⟩, h.2.2⟩⟩
theorem goodV_bad {zs : List Int} {need : Int} {k : Nat} (hk : k < zs.length) (h : ¬ (0 ≤ zA zs k ∧ zA zs k ≤ 9)) : goodV zs need = false := by
  rw [Bool.eq_false_iff]; intro g; exact h ((goodV_t.1 g).1 k hk)

theorem okV_succ {zs : List Int} {k : Nat} (h : okV zs k) (h0 : 0 ≤ zA zs k) (h1 : zA zs k ≤ 9) : okV zs (k + 1) := fun i hi => by
  by_cases e : i = k
  · subst e; exact ⟨h0, h1⟩
  · exact h i (by omega)

set_option maxHeartbeats 1000000 in
theorem specGoodV_any (zs : List Int) (need : Int) (a : Option Addr) (c : Nat) (w : World) (hs : Ints w a zs) (hl : zs.length ≤ maxLen) :
    Calls Tryd.prog 61 #[votV zs need a c] w fun r w' => r = .returned (.bool (goodV zs need)) ∧ Below w.heap.size w w' := by
  unfold maxLen at hl
  have hb : ∀ x, Below w.heap.size w (w.alloc x) := fun _ => (Below.refl _ _).alloc (Nat.le_refl _) _
  go_enter Tryd.func61, Tryd.ntmps61
  go_wp2
  go_loop [8] (fun i => ∃ k : Nat, k ≤ zs.length ∧ i = .int .i64 k ∧ okV zs k) (fun i => zs.length - (intOf i).toNat)
  case atStart => exact ⟨0, Nat.zero_le _, rfl, fun i hi => absurd hi (Nat.not_lt_zero _)⟩
  case round =>
    obtain ⟨k, hk, rfl, hok⟩ := hrel
    have HO : Hid (okV zs k) := hok
    clear hok
    by_cases hlt : k < zs.length
    · obtain ⟨b, off, rfl, hc⟩ := (hs.below (hb (.cells #[.slice a zs.length c, .int .i64 need] 77))) k _ (zA_get hlt)
      clear hs
      by_cases hin : inB (zA zs k) 0 9 = true
      · have HI : Hid (inB (zA zs k) 0 9 = true) := hin
        have hin2 := inB_t.1 hin
        clear hin
        go_wp2_with (go_at_call 29; refine (l1In_any _ _ _ _).mono ?_; rintro e w' ⟨he, rfl⟩; rw [HI.out] at he; subst he)
        go_round
        case rel => exact ⟨k + 1, by omega, by go_num, okV_succ HO.out hin2.1 hin2.2⟩
        case measure => simp [intOf]; omega
      · have HI : Hid (inB (zA zs k) 0 9 = false) := by show _ = _; simpa using hin
        have hin2 := inB_f.1 HI.out
        clear hin
        go_wp2_with (go_at_call 29; refine (l1In_any _ _ _ _).mono ?_; rintro e w' ⟨he, rfl⟩; rw [HI.out] at he; subst he)
        go_ret
        exact ⟨ret_bool (goodV_bad hlt hin2).symm, hb _⟩
    · obtain rfl : k = zs.length := by omega
      have hall := HO.out
      clear hs HO
      by_cases h1 : inB zs.length 1 7 = false
      · go_wp2_with (first | (go_at_call 29; refine (l1In_any _ _ _ _).mono ?_; rintro e w' ⟨rfl, rfl⟩))
        go_ret
        exact ⟨ret_bool (by simp [goodV, h1]), hb _⟩
      have h1 : inB zs.length 1 7 = true := by simpa using h1
      go_wp2_with (first | (go_at_call 29; refine (l1In_any _ _ _ _).mono ?_; rintro e w' ⟨rfl, rfl⟩))
      go_ret
      exact ⟨ret_bool (by simp [goodV, h1, hall]), hb _⟩

theorem oneUpTo_any (n hi : Int) (w : World) : Calls Tryd.prog 24 #[.int .i64 n, .int .i64 hi] w fun e w' => e = .returned (.bool (inB n 1 hi)) ∧ w' = w := by
  by_cases h1 : 1 ≤ n
  · by_cases h2 : n ≤ hi
    · go_enter Tryd.func24, Tryd.ntmps24
      go_wp2
      go_ret
      exact ⟨ret_bool (by rw [inB_t.2 ⟨h1, h2⟩]), rfl⟩
    · go_enter Tryd.func24, Tryd.ntmps24
      go_wp2
      go_ret
      exact ⟨ret_bool (by rw [inB_f.2 (by omega)]), rfl⟩
  · go_enter Tryd.func24, Tryd.ntmps24
    go_wp2
    go_ret
    exact ⟨ret_bool (by rw [inB_f.2 (by omega)]), rfl⟩

end Go.Proofs.YtdibddkhjefmlaaDoor
