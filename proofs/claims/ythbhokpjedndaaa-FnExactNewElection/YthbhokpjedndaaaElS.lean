/-
  Elections, the specification's side: spec.l9Last, l9Up, UpToDate, l9There, l9Server, l9Letter. Made by mkels.py.
-/
import Derived.Test.YthbhokpjedndaaaElM
import Derived.Test.YthbhokpjedndaaaQSpec
import Derived.Deep.RegionHeld3
import Derived.WalkMore
namespace Go.Proofs.Ythbhokpjedndaaa
open Go.RowKit

theorem l1In_c (n lo hi : Int) (b : Bool) (w : World) (h : inB n lo hi = b) : Calls Try.prog 31 #[.int .i64 n, .int .i64 lo, .int .i64 hi] w fun e w' => e = .returned (.bool b) ∧ w' = w := by
  rw [← h]; exact l1In_any n lo hi w

theorem goodE_c (a : Option Addr) (c : Nat) (zs : List Int) (b : Bool) (w : World) (hs : Ints w a zs) (hl : zs.length ≤ maxLen) (h : goodE zs = b) : Calls Try.prog 29 #[.slice a zs.length c] w fun e w' => e = .returned (.bool b) ∧ w' = w := by
  rw [← h]; exact specGoodE_any a c zs w hs hl

theorem l9Last_any (a : Option Addr) (c : Nat) (zs : List Int) (w : World) (hs : Ints w a zs) (hl : zs.length ≤ maxLen) :
    Calls Try.prog 30 #[.slice a zs.length c] w fun e w' => e = .returned (.int .i64 (lastZ zs)) ∧ w' = w := by
  unfold maxLen at hl
  by_cases h0 : zs.length = 0
  · have HE : Hid (lastZ zs = -1) := by show _ = _; unfold lastZ; rw [if_pos h0]
    rw [h0]
    clear h0 hs
    go_enter Try.func30, Try.ntmps30
    go_wp2
    go_ret
    exact ⟨ret_int (by rw [HE.out]), rfl⟩
  · obtain ⟨j, hj⟩ : ∃ j, zs.length = j + 1 := ⟨zs.length - 1, by omega⟩
    obtain ⟨b, off, rfl, hc⟩ := hs j _ (zA_get (by omega))
    have HE : Hid (lastZ zs = zA zs j) := by show _ = _; unfold lastZ; rw [if_neg h0, hj]; rfl
    rw [hj] at hl ⊢
    have hj1 : ((j + 1 : Nat) : Int) - 1 = (j : Int) := by omega
    have hz : (((j + 1 : Nat) : Int) == 0) = false := by simp; omega
    clear h0 hs hj
    go_enter Try.func30, Try.ntmps30
    go_wp2
    go_ret
    exact ⟨ret_int (by rw [HE.out]), rfl⟩

/-- What UpToDate answers. -/
def utdB (xs ys : List Int) : Bool := goodE xs && goodE ys
def utdA (xs ys : List Int) : Bool := utdB xs ys && upZ (lastZ xs) xs.length ys

end Go.Proofs.Ythbhokpjedndaaa
