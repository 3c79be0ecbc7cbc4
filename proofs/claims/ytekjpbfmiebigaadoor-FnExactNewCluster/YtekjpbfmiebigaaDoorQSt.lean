/-
  So many members, each as far behind the one ahead: the contract of impl.inSteps. Made by mkgri3.py.
-/
import Derived.Test.YtekjpbfmiebigaaDoorQImpl
namespace Go.Proofs.YtekjpbfmiebigaaDoor
open Go.RowKit

/-- So many members, each as far behind the one ahead. -/
def stTo (fr by_ : Nat) : Nat → Nat
  | 0 => 0
  | k + 1 => stTo fr by_ k ||| 2 ^ (fr + k * by_)

theorem p7 {m : Nat} (h : m < 7) : 2 ^ m < 128 := Nat.pow_lt_pow_right (by omega) h

theorem stTo_lt {fr by_ many : Nat} (h : ∀ k, k < many → fr + k * by_ < 7) : ∀ k, k ≤ many → stTo fr by_ k < 128
  | 0, _ => by simp [stTo]
  | k + 1, hk => or_lt (stTo_lt h k (by omega)) (p7 (h k (by omega)))

set_option maxHeartbeats 2000000 in
theorem inSteps_any (fr by_ many : Nat) (hm : many ≤ 7) (hfr : fr ≤ 7) (hby : by_ ≤ 7) (h : ∀ k, k < many → fr + k * by_ < 7) (w : World) :
    Calls Tryd.prog 20 #[.int .i64 (fr : Int), .int .i64 (by_ : Int), .int .i64 (many : Int)] w fun r w' => r = .returned (setV (stTo fr by_ many)) ∧ Below w.heap.size w w' := by
  go_enter Tryd.func20, Tryd.ntmps20
  go_wp2
  have hB : ∀ x y, Below w.heap.size w ((w.alloc x).alloc y) := fun _ _ => ((Below.refl _ _).alloc (Nat.le_refl _) _).alloc (by simp) _
  have hR1 := fun x => (rowIs_of_alloc6 w #[.int .u64 0] 52).of_block (w' := (w.alloc (.cells #[.int .u64 0] 52)).alloc x) (((Below.refl _ _).alloc (Nat.le_refl _) _).block _ (by simp))
  have hR2 := rowIs_of_alloc6 (w.alloc (.cells #[.int .u64 0] 52)) #[.int .u64 0] 52
  simp only [World.size_alloc] at hR2
  go_loopw [10] (fun i wr => ∃ k : Nat, k ≤ many ∧ i = .int .i64 k ∧ Below w.heap.size w wr ∧ (∃ f, wr.rowIs w.heap.size 52 1 f) ∧ ∃ f, wr.rowIs (w.heap.size + 1) 52 1 f ∧ f 0 = .int .u64 (stTo fr by_ k : Int)) (fun i _ => many - (intOf i).toNat)
  case atStart => exact ⟨0, Nat.zero_le _, rfl, hB _ _, ⟨_, hR1 _⟩, _, hR2, rfl⟩
  case round =>
    clear hR1 hR2 hB
    obtain ⟨k, hk, rfl, hB, ⟨f1, hR1⟩, f2, hR2, h2⟩ := hrel
    have hm128 := stTo_lt h k hk
    have c1 := hR1.cell (i := 0) (by omega)
    have c2 := hR2.cell (i := 0) (by omega)
    rw [h2] at c2
    have z1 := hR1.frozen 0
    have z2 := hR2.frozen 0
    have hsz := hR2.lt
    have HR1 : Hid (wr.rowIs w.heap.size 52 1 f1) := hR1
    have HR2 : Hid (wr.rowIs (w.heap.size + 1) 52 1 f2) := hR2
    clear hR1 hR2 h2
    by_cases hlt : k < many
    · obtain ⟨m, hmm⟩ : ∃ m, m = fr + k * by_ := ⟨_, rfl⟩
      have hm7 : m < 7 := by have := h k hlt; omega
      have hp7 : 2 ^ m < 128 := p7 hm7
      have HN : Hid (stTo fr by_ (k + 1) = stTo fr by_ k ||| 2 ^ m) := by show _ = _; rw [hmm]; rfl
      obtain ⟨p, hp⟩ : ∃ p, p = k * by_ := ⟨_, rfl⟩
      have e1 : (k : Int) * (by_ : Int) = (p : Int) := by rw [hp]; simp
      have e2 : (fr : Int) + (p : Int) = (m : Int) := by rw [hmm, ← hp]; simp
      have hp50 : p ≤ 49 := by rw [hp]; exact Nat.mul_le_mul (by omega : k ≤ 7) hby
      have e3 : IntKind.i64.wrap (p : Int) = (p : Int) := by rw [IntKind.wrap_i64]; omega
      have e4 : IntKind.i64.wrap (m : Int) = (m : Int) := by rw [IntKind.wrap_i64]; omega
      clear hmm hp h
      generalize stTo fr by_ k = st at *
      go_wp2_with fail
      go_region_with (first
        | (go_at_call 45; refine (only_any m hm7 _).mono ?_; rintro r w1 ⟨rfl, hB1⟩; have hz1 : wr.heap.size ≤ w1.heap.size := hB1.size; have cA := (keep_dr hB1 (b := w.heap.size + 1) (off := 0) hsz).1.trans c2; have fA := (keep_dr hB1 (b := w.heap.size + 1) (off := 0) hsz).2.trans z2)
        | (go_at_call 44; refine (joined_any _ _ [st, 2 ^ m] _ (sets_two hm128 hp7 (by simp) (by simp)) (by simp)).mono ?_; rintro r w2 ⟨rfl, hB2⟩; have hz2 := hB2.size; have cB := (keep_al hB2 (b := w.heap.size + 1) (off := 0) (by omega)).1.trans cA; have fB := (keep_al hB2 (b := w.heap.size + 1) (off := 0) (by omega)).2.trans fA))
      all_goals
        rw [orTo_two]
        go_wp2
        go_roundw
        case rel =>
          have R1 := row_al (row_dr HR1.out hB1) hB2
          have R2 := row_al (row_dr HR2.out hB1) hB2
          refine ⟨k + 1, by omega, by go_num, (Below.step_al (Below.step_dr hB hB1) hB2).setCell (by simp) _, ⟨_, R1.setOther (by simp) _⟩, _, R2.set 0 _, ?_⟩
          rw [HN.out]; simp
        case measure => simp [intOf]; omega
    · obtain rfl : k = many := by omega
      clear h
      go_wp2
      refine bodyPost_ret (v := setV (stTo fr by_ k)) (by simp [results, Tryd.results20, go_sem, c1]) rfl ⟨rfl, hB.setCell (Nat.le_refl _) _⟩

end Go.Proofs.YtekjpbfmiebigaaDoor
