/-
  Votes as a call reads them: the contracts of szIntS, szVotes, toVotes, eqVotes; spec.GoodVotes and impl.GoodVotes answer the same Bool, 'goodV'.
-/
import Derived.Test.YtifahambpgnedaaDoorQMath
namespace Go.Proofs.YtifahambpgnedaaDoor
open Go.RowKit

/-- A value of Votes: the weights lie at 'a'. -/
abbrev votV (zs : List Int) (need : Int) (a : Option Addr) (c : Nat) : Value := .agg #[.slice a zs.length c, .int .i64 need]

def szI (n : Nat) (left : Int) : Int := if left - n < 0 then -1 else left - n

theorem szI_bound {n : Nat} {left : Int} (h : 0 ≤ szI n left) : (n : Int) ≤ left ∧ szI n left = left - n := by
  unfold szI at h ⊢; split at h <;> split <;> omega

theorem szI_range (n : Nat) {left : Int} (h0 : 0 ≤ left) : -1 ≤ szI n left ∧ szI n left ≤ left := by
  unfold szI; split <;> omega

theorem szIntS_any (a : Option Addr) (c n : Nat) (left : Int) (w : World) (hl : n ≤ maxLen) (h0 : 0 ≤ left) (h1 : left ≤ 1048576) :
    Calls Tryd.prog 29 #[.slice a n c, .int .i64 left] w fun e w' => e = .returned (.int .i64 (szI n left)) ∧ w' = w := by
  unfold maxLen at hl
  by_cases hn : left - n < 0
  · go_enter Tryd.func29, Tryd.ntmps29
    go_wp2
    go_ret
    exact ⟨ret_int (by unfold szI; rw [if_pos hn]), rfl⟩
  · go_enter Tryd.func29, Tryd.ntmps29
    go_wp2
    go_ret
    exact ⟨ret_int (by unfold szI; rw [if_neg (by omega)]), rfl⟩

theorem szVotes_any (zs : List Int) (need : Int) (a : Option Addr) (c : Nat) (w : World) (hl : zs.length ≤ maxLen) :
    Calls Tryd.prog 8 #[votV zs need a c, .int .i64 1048576] w fun r w' => r = .returned (.int .i64 (szI zs.length 1048576)) ∧ Below w.heap.size w w' := by
  have hr := szI_range zs.length (left := 1048576) (by omega)
  by_cases hn : szI zs.length 1048576 < 0
  · go_enter Tryd.func8, Tryd.ntmps8
    go_wp2_with (go_at_call 29; refine (szIntS_any _ _ _ _ _ hl (by omega) (by omega)).mono ?_; rintro e w' ⟨rfl, rfl⟩)
    go_ret
    exact ⟨ret_int (by omega), (Below.refl _ _).alloc (Nat.le_refl _) _⟩
  · go_enter Tryd.func8, Tryd.ntmps8
    go_wp2_with (go_at_call 29; refine (szIntS_any _ _ _ _ _ hl (by omega) (by omega)).mono ?_; rintro e w' ⟨rfl, rfl⟩)
    go_ret
    exact ⟨rfl, (Below.refl _ _).alloc (Nat.le_refl _) _⟩

theorem bcell6 {W w1 : World} (hb : Below W.heap.size W w1) : (∀ b o, b < W.heap.size → w1.cell? ⟨b, o, none⟩ = W.cell? ⟨b, o, none⟩) ∧ (∀ b o, b < W.heap.size → w1.frozen? ⟨b, o, none⟩ = W.frozen? ⟨b, o, none⟩) :=
  ⟨fun b o h => hb.cell (p := ⟨b, o, none⟩) h, fun b o h => hb.frozen (p := ⟨b, o, none⟩) h⟩

set_option maxHeartbeats 1000000 in
theorem toVotes_any (zs : List Int) (need : Int) (a : Option Addr) (c : Nat) (w : World) (hs : Ints w a zs) (hl : zs.length ≤ 1048576) :
    Calls Tryd.prog 10 #[votV zs need a c] w fun r w' => ∃ a', r = .returned (votV zs need a' zs.length) ∧ Ints w' a' zs ∧ RowI w' w.heap.size a' zs.length ∧ Below w.heap.size w w' := by
  go_enter Tryd.func10, Tryd.ntmps10
  go_wp2_with fail
  refine (toIntS_any _ _ _ _ (hs.below ((((Below.refl _ _).alloc (Nat.le_refl _) _).alloc (by simp) _).alloc (by simp; omega) _)) hl).mono ?_
  rintro r w1 ⟨a', rfl, hI, hR, hB⟩
  have HB := (((((Below.refl w.heap.size w).alloc (Nat.le_refl _) _).alloc (by simp) _).alloc (by simp; omega) _).trans (hB.mono (by simp; omega)))
  obtain ⟨hc, hf⟩ := bcell6 hB
  have hz1 := hB.size
  simp only [World.size_alloc] at hc hf hz1 hR
  clear hB
  have hlt : ∀ b, InI a' zs.length b → w.heap.size + 1 + 1 + 1 ≤ b := fun b h => (hR.lt h).1
  go_wp2
  refine bodyPost_ret (v := votV zs need a' zs.length) (by simp [results, Tryd.results10, go_sem, hc]) rfl ⟨a', rfl, hI.of_block ?_, (hR.mono (by omega)).of_block ?_, ?_⟩
  · intro b h; have := hlt b h
    repeat rw [Below.heap_setCell _ _ _ b (by simp; omega)]
  · intro b h; have := hlt b h
    repeat rw [Below.heap_setCell _ _ _ b (by simp; omega)]
  · exact (((HB.setCell (by simp; omega) _).setCell (by simp; omega) _).setCell (by simp) _).setCell (by simp) _

set_option maxHeartbeats 1000000 in
theorem eqVotes_same (zs : List Int) (need : Int) (a a2 : Option Addr) (c c2 : Nat) (w : World) (hs : Ints w a zs) (hs2 : Ints w a2 zs) (hl : zs.length ≤ maxLen) :
    Calls Tryd.prog 13 #[votV zs need a c, votV zs need a2 c2] w fun r w' => r = .returned (.bool true) ∧ Below w.heap.size w w' := by
  have hne : (need != need) = false := by simp
  go_enter Tryd.func13, Tryd.ntmps13
  go_wp2_with fail
  have hb : ∀ x y, Below w.heap.size w ((w.alloc x).alloc y) := fun _ _ => ((Below.refl _ _).alloc (Nat.le_refl _) _).alloc (by simp) _
  refine (eqIntS_same _ _ _ _ _ _ (hs.below (hb _ _)) (hs2.below (hb _ _)) hl).mono ?_
  rintro r w1 ⟨rfl, hB⟩
  obtain ⟨hc, hf⟩ := bcell6 hB
  have hz1 := hB.size
  simp only [World.size_alloc] at hc hf hz1
  have HB := (hb _ _).trans (hB.mono (by simp; omega))
  clear hB
  go_wp2
  go_ret
  exact ⟨rfl, HB⟩

/-- Whether votes are good. -/
def okV (zs : List Int) (k : Nat) : Prop := ∀ i, i < k → 0 ≤ zA zs i ∧ zA zs i ≤ 9
instance (zs : List Int) (k : Nat) : Decidable (okV zs k) := by unfold okV; infer_instance
def goodV (zs : List Int) (need : Int) : Bool := decide (okV zs zs.length) && inB zs.length 1 7 && inB need 1 100

theorem goodV_t {zs : List Int} {need : Int} : goodV zs need = true ↔ okV zs zs.length ∧ (1 ≤ zs.length ∧ zs.length ≤ 7) ∧ 1 ≤ need ∧ need ≤ 100 := by
  simp only [goodV, Bool.and_eq_true, decide_eq_true_eq, inB_t]
  exact ⟨fun h => ⟨h.1.1, by omega, h.2⟩, fun h => ⟨⟨h.1, by omega⟩, h.2.2⟩⟩
theorem goodV_bad {zs : List Int} {need : Int} {k : Nat} (hk : k < zs.length) (h : ¬ (0 ≤ zA zs k ∧ zA zs k ≤ 9)) : goodV zs need = false := by
  rw [Bool.eq_false_iff]; intro g; exact h ((goodV_t.1 g).1 k hk)

theorem okV_succ {zs : List Int} {k : Nat} (h : okV zs k) (h0 : 0 ≤ zA zs k) (h1 : zA zs k ≤ 9) : okV zs (k + 1) := fun i hi => by
  by_cases e : i = k
  · subst e; exact ⟨h0, h1⟩
  · exact h i (by omega)

set_option maxHeartbeats 1000000 in
theorem specGoodV_any (zs : List Int) (need : Int) (a : Option Addr) (c : Nat) (w : World) (hs : Ints w a zs) (hl : zs.length ≤ maxLen) :
    Calls Tryd.prog 30 #[votV zs need a c] w fun r w' => r = .returned (.bool (goodV zs need)) ∧ Below w.heap.size w w' := by
  unfold maxLen at hl
  have hb : ∀ x, Below w.heap.size w (w.alloc x) := fun _ => (Below.refl _ _).alloc (Nat.le_refl _) _
  go_enter Tryd.func30, Tryd.ntmps30
  go_wp2
  go_loop [8] (fun i => ∃ k : Nat, k ≤ zs.length ∧ i = .int .i64 k ∧ okV zs k) (fun i => zs.length - (intOf i).toNat)
  case atStart => exact ⟨0, Nat.zero_le _, rfl, fun i hi => absurd hi (Nat.not_lt_zero _)⟩
  case round =>
    obtain ⟨k, hk, rfl, hok⟩ := hrel
    have HO : Hid (okV zs k) := hok
    clear hok
    by_cases hlt : k < zs.length
    · obtain ⟨b, off, rfl, hc⟩ := (hs.below (hb (.cells #[.slice a zs.length c, .int .i64 need] 28))) k _ (zA_get hlt)
      clear hs
      by_cases hin : inB (zA zs k) 0 9 = true
      · have HI : Hid (inB (zA zs k) 0 9 = true) := hin
        have hin2 := inB_t.1 hin
        clear hin
        go_wp2_with (go_at_call 42; refine (l1In_any _ _ _ _).mono ?_; rintro e w' ⟨he, rfl⟩; rw [HI.out] at he; subst he)
        go_round
        case rel => exact ⟨k + 1, by omega, by go_num, okV_succ HO.out hin2.1 hin2.2⟩
        case measure => simp [intOf]; omega
      · have HI : Hid (inB (zA zs k) 0 9 = false) := by show _ = _; simpa using hin
        have hin2 := inB_f.1 HI.out
        clear hin
        go_wp2_with (go_at_call 42; refine (l1In_any _ _ _ _).mono ?_; rintro e w' ⟨he, rfl⟩; rw [HI.out] at he; subst he)
        go_ret
        exact ⟨ret_bool (goodV_bad hlt hin2).symm, hb _⟩
    · obtain rfl : k = zs.length := by omega
      have hall := HO.out
      clear hs HO
      by_cases h1 : inB zs.length 1 7 = false
      · go_wp2_with (first | (go_at_call 42; refine (l1In_any _ _ _ _).mono ?_; rintro e w' ⟨rfl, rfl⟩))
        go_ret
        exact ⟨ret_bool (by simp [goodV, h1]), hb _⟩
      have h1 : inB zs.length 1 7 = true := by simpa using h1
      go_wp2_with (first | (go_at_call 42; refine (l1In_any _ _ _ _).mono ?_; rintro e w' ⟨rfl, rfl⟩))
      go_ret
      exact ⟨ret_bool (by simp [goodV, h1, hall]), hb _⟩

theorem oneUpTo_any (n hi : Int) (w : World) : Calls Tryd.prog 45 #[.int .i64 n, .int .i64 hi] w fun e w' => e = .returned (.bool (inB n 1 hi)) ∧ w' = w := by
  by_cases h1 : 1 ≤ n
  · by_cases h2 : n ≤ hi
    · go_enter Tryd.func45, Tryd.ntmps45
      go_wp2
      go_ret
      exact ⟨ret_bool (by rw [inB_t.2 ⟨h1, h2⟩]), rfl⟩
    · go_enter Tryd.func45, Tryd.ntmps45
      go_wp2
      go_ret
      exact ⟨ret_bool (by rw [inB_f.2 (by omega)]), rfl⟩
  · go_enter Tryd.func45, Tryd.ntmps45
    go_wp2
    go_ret
    exact ⟨ret_bool (by rw [inB_f.2 (by omega)]), rfl⟩

set_option maxHeartbeats 1000000 in
theorem implGoodV_any (zs : List Int) (need : Int) (a : Option Addr) (c : Nat) (w : World) (hs : Ints w a zs) (hl : zs.length ≤ maxLen) :
    Calls Tryd.prog 33 #[votV zs need a c] w fun r w' => r = .returned (.bool (goodV zs need)) ∧ Below w.heap.size w w' := by
  unfold maxLen at hl
  have hb : ∀ x, Below w.heap.size w (w.alloc x) := fun _ => (Below.refl _ _).alloc (Nat.le_refl _) _
  by_cases h1 : (zs.length : Int) < 1
  · go_enter Tryd.func33, Tryd.ntmps33
    go_wp2
    go_ret
    exact ⟨ret_bool (by simp only [goodV]; rw [inB_f.2 (by omega)]; simp), hb _⟩
  by_cases h2 : (7 : Int) < zs.length
  · go_enter Tryd.func33, Tryd.ntmps33
    go_wp2
    go_ret
    exact ⟨ret_bool (by simp only [goodV]; rw [inB_f.2 (by omega)]; simp), hb _⟩
  go_enter Tryd.func33, Tryd.ntmps33
  go_wp2
  go_loop [18] (fun i => ∃ k : Nat, k ≤ zs.length ∧ i = .int .i64 k ∧ okV zs k) (fun i => zs.length - (intOf i).toNat)
  case atStart => exact ⟨0, Nat.zero_le _, rfl, fun i hi => absurd hi (Nat.not_lt_zero _)⟩
  case round =>
    obtain ⟨k, hk, rfl, hok⟩ := hrel
    have HO : Hid (okV zs k) := hok
    clear hok
    by_cases hlt : k < zs.length
    · obtain ⟨b, off, rfl, hc⟩ := (hs.below (hb (.cells #[.slice a zs.length c, .int .i64 need] 28))) k _ (zA_get hlt)
      clear hs
      by_cases hin : inB (zA zs k) 0 9 = true
      · have HI : Hid (inB (zA zs k) 0 9 = true) := hin
        have hin2 := inB_t.1 hin
        clear hin
        go_wp2_with (go_at_call 53; refine (within_any _ _ _).mono ?_; rintro e w' ⟨he, rfl⟩; rw [HI.out] at he; subst he)
        go_round
        case rel => exact ⟨k + 1, by omega, by go_num, okV_succ HO.out hin2.1 hin2.2⟩
        case measure => simp [intOf]; omega
      · have HI : Hid (inB (zA zs k) 0 9 = false) := by show _ = _; simpa using hin
        have hin2 := inB_f.1 HI.out
        clear hin
        go_wp2_with (go_at_call 53; refine (within_any _ _ _).mono ?_; rintro e w' ⟨he, rfl⟩; rw [HI.out] at he; subst he)
        go_ret
        exact ⟨ret_bool (goodV_bad hlt hin2).symm, hb _⟩
    · obtain rfl : k = zs.length := by omega
      have hall := HO.out
      clear hs HO
      go_wp2_with (go_at_call 45; refine (oneUpTo_any _ _ _).mono ?_; rintro e w' ⟨rfl, rfl⟩)
      go_ret
      have e7 : inB zs.length 1 7 = true := inB_t.2 (by omega)
      exact ⟨ret_bool (by simp [goodV, e7, hall]), hb _⟩

end Go.Proofs.YtifahambpgnedaaDoor
