/-
  Logs: the contracts of eqBatchS, spec.l1Next, impl.mayFollow, spec.GoodLog, impl.GoodLog.
-/
import Derived.Test.YthbhokpjedndaaaLogs
namespace Go.Proofs.Ythbhokpjedndaaa
open Go.RowKit

set_option maxHeartbeats 1000000 in
theorem eqBatchS_same (a a2 : Option Addr) (c c2 : Nat) (bs : List Bt) (w : World) (hx : Bats w a bs) (hy : Bats w a2 bs) (hl : bs.length ≤ maxLen) :
    Calls Try.prog 23 #[.slice a bs.length c, .slice a2 bs.length c2] w fun e w' => e = .returned (.bool true) ∧ Below w.heap.size w w' := by
  unfold maxLen at hl
  go_enter Try.func23, Try.ntmps23
  go_wp2
  go_loopw [5] (fun i wr => ∃ k : Nat, k ≤ bs.length ∧ i = .int .i64 k ∧ Below w.heap.size w wr) (fun i _ => bs.length - (intOf i).toNat)
  case atStart => exact ⟨0, Nat.zero_le _, rfl, Below.refl _ _⟩
  case round =>
    obtain ⟨k, hk, rfl, hB⟩ := hrel
    by_cases hlt : k < bs.length
    · obtain ⟨b, hkb⟩ := getBt hlt
      obtain ⟨kb, ob, rfl, hbt⟩ := (hx.below hB) k b hkb
      obtain ⟨ra, rc, c0, c1, c2, c3, c4, hst, hsl⟩ := hbt
      obtain ⟨kb2, ob2, rfl, hbt2⟩ := (hy.below hB) k b hkb
      obtain ⟨ra2, rc2, d0, d1, d2, d3, d4, hst2, hsl2⟩ := hbt2
      clear hx hy hkb
      go_wp2
      go_region_with (go_at_call 54; refine (eqBatch_same _ _ _ _ _ _ _ _ _ _ ?_ ?_ hsl).mono ?_; exact hst.below (Below.refl _ _).drew; exact hst2.below (Below.refl _ _).drew; rintro r w1 ⟨rfl, hB1⟩)
      all_goals
        go_wp2
        go_roundw
        case rel => exact ⟨k + 1, by omega, by go_num, hB.drew.trans (hB1.mono (by simpa using hB.size))⟩
        case measure => simp [intOf]; omega
    · go_wp2
      go_ret
      exact ⟨rfl, hB⟩

def nextB (a b : Bt) : Bool := decide (b.off = wrap64 (a.off + a.recs.length)) && decide (a.ep ≤ b.ep)

def followB (p : Option Bt) (b : Bt) : Bool := match p with
  | none => true
  | some x => nextB x b

end Go.Proofs.Ythbhokpjedndaaa
