/-
  What FnLogs asks besides: batches that are the same; a number of bytes.
-/
import Derived.Test.YtlinincmlilbjaaDoorLogs2J
import Derived.Test.YtlinincmlilbjaaDoorInts
import Derived.Test.YtlinincmlilbjaaDoorCur
import Derived.Deep.RegionWith
import Derived.Deep.RegionHeld3
namespace Go.Proofs.YtlinincmlilbjaaDoor
open Go.RowKit

set_option maxRecDepth 100000 in
set_option maxHeartbeats 4000000 in
theorem sameTexts_same (a b : Option Addr) (c d : Nat) (l : List ByteArray) (w : World) (hx : Strs w a l) (hy : Strs w b l) (hl : l.length ≤ maxLen) :
    Calls Tryd.prog 28 #[.slice a l.length c, .slice b l.length d] w fun e w' => e = .returned (.bool true) ∧ Below w.heap.size w w' := by
  unfold maxLen at hl
  go_enter Tryd.func28, Tryd.ntmps28
  go_wp2
  go_loopw [13] (fun i wr => ∃ k : Nat, k ≤ l.length ∧ i = .int .i64 k ∧ Below w.heap.size w wr) (fun i _ => l.length - (intOf i).toNat)
  case atStart => exact ⟨0, Nat.zero_le _, rfl, Below.refl _ _⟩
  case round =>
    obtain ⟨k, hk, rfl, hB⟩ := hrel
    by_cases hlt : k < l.length
    · obtain ⟨s, hs⟩ := getAt hlt
      obtain ⟨xb, xo, rfl, c0, -⟩ := (hx.below hB) k s hs
      obtain ⟨yb, yo, rfl, d0, -⟩ := (hy.below hB) k s hs
      have hki : (k : Int) < (l.length : Int) := by omega
      have hdr : Below wr.heap.size wr wr.drew := (Below.refl _ _).drew
      have B2 : Below w.heap.size w wr.drew := hB.drew
      go_wp2_with fail
      go_region
      go_wp2
      go_roundw
      case rel => exact ⟨k + 1, by omega, by go_num, B2⟩
      case measure => simp [intOf]; omega
    · obtain rfl : k = l.length := by omega
      go_wp2
      go_ret
      exact ⟨rfl, hB⟩

set_option maxHeartbeats 4000000 in
theorem sameBatch_same (o e p q : Int) (ss : List ByteArray) (a a2 : Option Addr) (c c2 : Nat) (w : World) (hs : Strs w a ss) (hs2 : Strs w a2 ss) (hl : ss.length ≤ maxLen) :
    Calls Tryd.prog 12 #[.agg #[.int .i64 o, .int .i64 e, .int .i64 p, .int .i64 q, .slice a ss.length c], .agg #[.int .i64 o, .int .i64 e, .int .i64 p, .int .i64 q, .slice a2 ss.length c2]] w fun r w' => r = .returned (.bool true) ∧ Below w.heap.size w w' := by
  go_enter Tryd.func12, Tryd.ntmps12
  go_wp2_with fail
  have hb : ∀ x y, Below w.heap.size w ((w.alloc x).alloc y) := fun _ _ => ((Below.refl _ _).alloc (Nat.le_refl _) _).alloc (by simp) _
  refine (sameTexts_same _ _ _ _ _ _ (hs.below (hb _ _)) (hs2.below (hb _ _)) hl).mono ?_
  rintro r w1 ⟨rfl, hB⟩
  go_wp2
  go_ret
  exact ⟨rfl, (hb _ _).trans (hB.mono (by simp; omega))⟩

set_option maxRecDepth 100000 in
set_option maxHeartbeats 4000000 in
theorem numberOf_any (a : Option Addr) (c : Nat) (bs : List UInt8) (w : World) (hs : Bys w a bs) (hl : bs.length ≤ 1048576) :
    Calls Tryd.prog 13 #[.slice a bs.length c] w fun e w' => ∃ n : Nat, e = .returned (.int .i64 (n : Int)) ∧ n < 1000003 ∧ Below w.heap.size w w' := by
  go_enter Tryd.func13, Tryd.ntmps13
  go_wp2
  go_loopw [8, 3] (fun i v wr => ∃ k n : Nat, k ≤ bs.length ∧ i = .int .i64 k ∧ v = .int .i64 (n : Int) ∧ n < 1000003 ∧ Below w.heap.size w wr) (fun i _ _ => bs.length - (intOf i).toNat)
  case atStart => exact ⟨0, 0, Nat.zero_le _, rfl, rfl, by omega, Below.refl _ _⟩
  case round =>
    obtain ⟨k, n, hk, rfl, rfl, hn, hB⟩ := hrel
    by_cases hlt : k < bs.length
    · have hc := (hs.below hB) k _ (List.getElem?_eq_getElem hlt)
      have hki : (k : Int) < (bs.length : Int) := by omega
      obtain ⟨kb, ob, rfl, hc⟩ := hc
      have hz := (bs[k]).toNat_lt
      generalize (bs[k]).toNat = y at *
      go_wp2
      go_roundw
      case rel => exact ⟨k + 1, (31 * n + y) % 1000003, by omega, by go_num, by first | rfl | (congr 1; omega), Nat.mod_lt _ (by omega), hB⟩
      case measure => simp [intOf]; omega
    · obtain rfl : k = bs.length := by omega
      go_wp2
      go_ret
      exact ⟨n, rfl, hn, hB⟩

end Go.Proofs.YtlinincmlilbjaaDoor
