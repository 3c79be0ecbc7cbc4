/-
  Marks that are good: spec.GoodMarks and impl.GoodMarks answer the same Bool, 'goodM', at every list of marks that can be read.
-/
import Derived.Test.YtgmcllfdhkjafaaMks
import Derived.RegionTactic
namespace Go.Proofs.Ytgmcllfdhkjafaa
open Go.RowKit

def mA (fs : List Mk) (i : Nat) : Mk := fs.getD i ⟨0, 0⟩
def okM1 (fs : List Mk) (i : Nat) : Prop := 0 ≤ (mA fs i).ep ∧ (mA fs i).ep ≤ 100 ∧ 0 ≤ (mA fs i).st ∧ (mA fs i).st ≤ 29 ∧ (0 < i → (mA fs (i - 1)).ep < (mA fs i).ep ∧ (mA fs (i - 1)).st < (mA fs i).st)
instance (fs : List Mk) (k : Nat) : Decidable (okM1 fs k) := by unfold okM1; infer_instance
def okM (fs : List Mk) (k : Nat) : Prop := ∀ i, i < k → okM1 fs i
instance (fs : List Mk) (k : Nat) : Decidable (okM fs k) := by unfold okM; infer_instance
def goodM (fs : List Mk) : Bool := decide (fs.length ≤ 30 ∧ okM fs fs.length)

theorem goodM_t {fs : List Mk} : goodM fs = true ↔ fs.length ≤ 30 ∧ okM fs fs.length := by simp [goodM]
theorem goodM_f {fs : List Mk} (h : ¬ (fs.length ≤ 30 ∧ okM fs fs.length)) : goodM fs = false := by simp only [goodM, decide_eq_false_iff_not]; exact h

theorem mA_some {fs : List Mk} {k : Nat} {z : Mk} (h : fs[k]? = some z) : mA fs k = z := by
  unfold mA; rw [List.getD_eq_getElem?_getD, h]; rfl
theorem mA_get {fs : List Mk} {k : Nat} (h : k < fs.length) : fs[k]? = some (mA fs k) := by
  unfold mA; rw [List.getD_eq_getElem?_getD, List.getElem?_eq_getElem h]; rfl

theorem okM_succ {fs : List Mk} {k : Nat} (h : okM fs k) (h1 : okM1 fs k) : okM fs (k + 1) := fun i hi => by
  by_cases e : i = k
  · subst e; exact h1
  · exact h i (by omega)

theorem okM_bad {fs : List Mk} {k : Nat} (hk : k < fs.length) (h : ¬ okM1 fs k) : goodM fs = false :=
  goodM_f fun g => h (g.2 k hk)

theorem l1In_t (n lo hi : Int) (w : World) (h : lo ≤ n ∧ n ≤ hi) : Calls Try.prog 33 #[.int .i64 n, .int .i64 lo, .int .i64 hi] w fun e w' => e = .returned (.bool true) ∧ w' = w :=
  (l1In_any n lo hi w).mono fun e w' ⟨he, hw⟩ => ⟨he.trans (by rw [inB_t.2 h]), hw⟩
theorem l1In_f (n lo hi : Int) (w : World) (h : ¬ (lo ≤ n ∧ n ≤ hi)) : Calls Try.prog 33 #[.int .i64 n, .int .i64 lo, .int .i64 hi] w fun e w' => e = .returned (.bool false) ∧ w' = w :=
  (l1In_any n lo hi w).mono fun e w' ⟨he, hw⟩ => ⟨he.trans (by rw [inB_f.2 h]), hw⟩

set_option maxRecDepth 100000 in
set_option maxHeartbeats 2000000 in
theorem specGoodM_any (a : Option Addr) (c : Nat) (fs : List Mk) (w : World) (hs : Mks w a fs) (hl : fs.length ≤ maxLen) :
    Calls Try.prog 28 #[.slice a fs.length c] w fun e w' => e = .returned (.bool (goodM fs)) ∧ Below w.heap.size w w' := by
  unfold maxLen at hl
  go_enter Try.func28, Try.ntmps28
  go_wp2
  go_loopw [7] (fun i wr => ∃ k : Nat, k ≤ fs.length ∧ i = .int .i64 k ∧ okM fs k ∧ Below w.heap.size w wr) (fun i _ => fs.length - (intOf i).toNat)
  case atStart => exact ⟨0, Nat.zero_le _, rfl, fun i hi => absurd hi (Nat.not_lt_zero _), Below.refl _ _⟩
  case round =>
    obtain ⟨k, hk, rfl, hok, hB⟩ := hrel
    have HO : Hid (okM fs k) := hok
    clear hok
    by_cases hlt : k < fs.length
    · obtain ⟨b, off, rfl, c0, c1⟩ := (hs.below hB) k _ (mA_get hlt)
      have hBn : ∀ o, Below w.heap.size w (wr.alloc o) := fun o => hB.alloc hB.size o
      obtain ⟨x, hx⟩ : ∃ x, mA fs k = x := ⟨_, rfl⟩
      have HX : Hid (mA fs k = x) := hx
      rw [hx] at c0 c1
      clear hx
      have lb := lt_of_cell c0
      by_cases h1 : 0 ≤ x.ep ∧ x.ep ≤ 100
      · by_cases h2 : 0 ≤ x.st ∧ x.st ≤ 29
        · rcases Nat.eq_zero_or_pos k with h0 | h0
          · subst h0
            simp only [Nat.zero_mul, Nat.add_zero] at c0 c1
            clear hs
            go_wp2_with fail
            go_quiet ((go_at_call 33; exact Calls.quiet_of_same (l1In_t _ _ _ _ (by omega))))
            go_wp2
            go_roundw
            case rel => exact ⟨1, by omega, rfl, okM_succ HO.out (by unfold okM1; rw [HX.out]; exact ⟨h1.1, h1.2, h2.1, h2.2, fun h => absurd h (Nat.lt_irrefl _)⟩), below_drewN (hBn _) nq⟩
            case measure => simp [intOf]; omega
          · obtain ⟨j, rfl⟩ : ∃ j, k = j + 1 := ⟨k - 1, by omega⟩
            obtain ⟨b', off', e', d0, d1⟩ := (hs.below hB) j _ (mA_get (by omega))
            simp only [Option.some.injEq, Addr.mk.injEq, and_true] at e'
            obtain ⟨rfl, rfl⟩ := e'
            obtain ⟨y, hy⟩ : ∃ y, mA fs j = y := ⟨_, rfl⟩
            have HY : Hid (mA fs j = y) := hy
            rw [hy] at d0 d1
            clear hy hs
            have hz : (0 : Int) < (((j + 1 : Nat) : Int)) := by omega
            have hj1 : ((j + 1 : Nat) : Int) - 1 = (j : Int) := by omega
            have D0 : ∀ o, (wr.alloc o).cell? ⟨b, off + j * 2, none⟩ = some (.int .i64 y.ep) := fun o => (World.cell?_alloc_old wr o ⟨b, off + j * 2, none⟩ (by simp; omega)).trans d0
            have D1 : ∀ o, (wr.alloc o).cell? ⟨b, off + j * 2 + 1, none⟩ = some (.int .i64 y.st) := fun o => (World.cell?_alloc_old wr o ⟨b, off + j * 2 + 1, none⟩ (by simp; omega)).trans d1
            by_cases h3 : x.ep ≤ y.ep
            · go_wp2_with fail
              go_quiet ((go_at_call 33; exact Calls.quiet_of_same (l1In_t _ _ _ _ (by omega))))
              go_wp2
              go_ret
              exact ⟨ret_bool (okM_bad hlt (fun h => by unfold okM1 at h; rw [HX.out] at h; have := (h.2.2.2.2 (by omega)).1; simp only [Nat.add_sub_cancel] at this; rw [HY.out] at this; omega)).symm, below_drewN (hBn _) nq⟩
            · have hd3 : decide (x.ep ≤ y.ep) = false := by simpa using h3
              by_cases h4 : x.st ≤ y.st
              · go_wp2_with fail
                go_quiet ((go_at_call 33; exact Calls.quiet_of_same (l1In_t _ _ _ _ (by omega))))
                go_wp2
                go_ret
                exact ⟨ret_bool (okM_bad hlt (fun h => by unfold okM1 at h; rw [HX.out] at h; have := (h.2.2.2.2 (by omega)).2; simp only [Nat.add_sub_cancel] at this; rw [HY.out] at this; omega)).symm, below_drewN (hBn _) nq⟩
              · go_wp2_with fail
                go_quiet ((go_at_call 33; exact Calls.quiet_of_same (l1In_t _ _ _ _ (by omega))))
                go_wp2
                go_roundw
                case rel => exact ⟨j + 1 + 1, by omega, by go_num, okM_succ HO.out (by unfold okM1; rw [HX.out]; refine ⟨h1.1, h1.2, h2.1, h2.2, fun h => ?_⟩; simp only [Nat.add_sub_cancel]; rw [HY.out]; omega), below_drewN (hBn _) nq⟩
                case measure => simp [intOf]; omega
        · clear hs
          go_wp2_with fail
          go_quiet (first | (go_at_call_of 33 (Value.int .i64 x.ep); exact Calls.quiet_of_same (l1In_t _ _ _ _ h1)) | (go_at_call 33; exact Calls.quiet_of_same (l1In_f _ _ _ _ h2)))
          go_wp2
          go_ret
          exact ⟨ret_bool (okM_bad hlt (fun h => by unfold okM1 at h; rw [HX.out] at h; omega)).symm, below_drewN (hBn _) nq⟩
      · clear hs
        go_wp2_with fail
        go_quiet ((go_at_call 33; exact Calls.quiet_of_same (l1In_f _ _ _ _ h1)))
        go_wp2
        go_ret
        exact ⟨ret_bool (okM_bad hlt (fun h => by unfold okM1 at h; rw [HX.out] at h; omega)).symm, below_drewN (hBn _) nq⟩
    · obtain rfl : k = fs.length := by omega
      go_wp2
      go_ret
      refine ⟨ret_bool ?_, hB⟩
      have := HO.out
      by_cases h30 : fs.length ≤ 30
      · rw [goodM_t.2 ⟨h30, this⟩]; simp; omega
      · rw [goodM_f (fun h => h30 h.1)]; simp; omega

end Go.Proofs.Ytgmcllfdhkjafaa
