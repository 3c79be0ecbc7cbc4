/-
  Elections, the program's side: ends of logs.
-/
import Derived.Test.YthbhokpjedndaaaElM
import Derived.Test.YthbhokpjedndaaaVot
import Derived.Test.YthbhokpjedndaaaQImpl
import Derived.Deep.RegionHeld3
import Derived.WalkMore
import Derived.Handy
namespace Go.Proofs.Ythbhokpjedndaaa
open Go.RowKit

abbrev tipV (a b : Int) : Value := .agg #[.int .i64 a, .int .i64 b]
def upT (a b c d : Int) : Bool := decide (c < a) || (decide (a = c) && decide (d ≤ b))

theorem within_c (n hi : Int) (b : Bool) (w : World) (h : inB n 0 hi = b) : Calls Try.prog 66 #[.int .i64 n, .int .i64 hi] w fun e w' => e = .returned (.bool b) ∧ w' = w := by
  rw [← h]; exact within_any n hi w

theorem oneUpTo_c (n hi : Int) (b : Bool) (w : World) (h : inB n 1 hi = b) : Calls Try.prog 33 #[.int .i64 n, .int .i64 hi] w fun e w' => e = .returned (.bool b) ∧ w' = w := by
  rw [← h]; exact oneUpTo_any n hi w

theorem implGoodE_c (a : Option Addr) (c : Nat) (zs : List Int) (b : Bool) (w : World) (hs : Ints w a zs) (hl : zs.length ≤ maxLen) (h : goodE zs = b) : Calls Try.prog 34 #[.slice a zs.length c] w fun e w' => e = .returned (.bool b) ∧ w' = w := by
  rw [← h]; exact implGoodE_any a c zs w hs hl

theorem tipOf_any (a : Option Addr) (c : Nat) (zs : List Int) (w : World) (hs : Ints w a zs) (hl : zs.length ≤ maxLen) :
    Calls Try.prog 35 #[.slice a zs.length c] w fun e w' => e = .returned (tipV (lastZ zs) zs.length) ∧ Below w.heap.size w w' := by
  unfold maxLen at hl
  have HB : ∀ o, Below w.heap.size w (w.alloc o) := fun o => alEl w o
  by_cases h0 : zs.length = 0
  · have HE : Hid (lastZ zs = -1) := by show _ = _; unfold lastZ; rw [if_pos h0]
    rw [h0]
    clear h0 hs
    go_enter Try.func35, Try.ntmps35
    go_wp2
    refine bodyPost_ret (v := tipV (-1) 0) (by simp [results, Try.results35, go_sem]) rfl ⟨by rw [HE.out]; rfl, HB _⟩
  · obtain ⟨j, hj⟩ : ∃ j, zs.length = j + 1 := ⟨zs.length - 1, by omega⟩
    obtain ⟨b, off, rfl, hc⟩ := hs j _ (zA_get (by omega))
    have HE : Hid (lastZ zs = zA zs j) := by show _ = _; unfold lastZ; rw [if_neg h0, hj]; rfl
    rw [hj] at hl ⊢
    have hj1 : ((j + 1 : Nat) : Int) - 1 = (j : Int) := by omega
    have hz : (((j + 1 : Nat) : Int) == 0) = false := by simp; omega
    have hc' : ∀ o, (w.alloc o).cell? ⟨b, off + j, none⟩ = some (.int .i64 (zA zs j)) := fun o => celB (HB o) hc
    clear h0 hs hj hc
    go_enter Try.func35, Try.ntmps35
    go_wp2
    refine bodyPost_ret (v := tipV (zA zs j) ((j + 1 : Nat) : Int)) (by simp [results, Try.results35, go_sem]) rfl ⟨by rw [HE.out], HB _⟩

end Go.Proofs.Ythbhokpjedndaaa
