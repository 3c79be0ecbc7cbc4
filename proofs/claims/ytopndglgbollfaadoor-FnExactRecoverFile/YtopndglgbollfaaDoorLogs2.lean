/-
  Logs: the contracts of eqBatchS, spec.l1Next, impl.mayFollow, spec.GoodLog, impl.GoodLog.
-/
import Derived.Test.YtopndglgbollfaaDoorLogs
namespace Go.Proofs.YtopndglgbollfaaDoor
open Go.RowKit

set_option maxHeartbeats 1000000 in
theorem eqBatchS_same (a a2 : Option Addr) (c c2 : Nat) (bs : List Bt) (w : World) (hx : Bats w a bs) (hy : Bats w a2 bs) (hl : bs.length ≤ maxLen) :
    Calls Tryd.prog 10 #[.slice a bs.length c, .slice a2 bs.length c2] w fun e w' => e = .returned (.bool true) ∧ Below w.heap.size w w' := by
  unfold maxLen at hl
  go_enter Tryd.func10, Tryd.ntmps10
  go_wp2
  go_loopw [5] (fun i wr => ∃ k : Nat, k ≤ bs.length ∧ i = .int .i64 k ∧ Below w.heap.size w wr) (fun i _ => bs.length - (intOf i).toNat)
  case atStart => exact ⟨0, Nat.zero_le _, rfl, Below.refl _ _⟩
  case round =>
    obtain ⟨k, hk, rfl, hB⟩ := hrel
    by_cases hlt : k < bs.length
    · obtain ⟨b, hkb⟩ := getBt hlt
      obtain ⟨kb, ob, rfl, hbt⟩ := (hx.below hB) k b hkb
      obtain ⟨ra, rc, c0, c1, c2, c3, c4, hst, hsl⟩ := hbt
      obtain ⟨kb2, ob2, rfl, hbt2⟩ := (hy.below hB) k b hkb
      obtain ⟨ra2, rc2, d0, d1, d2, d3, d4, hst2, hsl2⟩ := hbt2
      clear hx hy hkb
      go_wp2
      go_region_with (go_at_call 27; refine (eqBatch_same _ _ _ _ _ _ _ _ _ _ ?_ ?_ hsl).mono ?_; exact hst.below (Below.refl _ _).drew; exact hst2.below (Below.refl _ _).drew; rintro r w1 ⟨rfl, hB1⟩)
      all_goals
        go_wp2
        go_roundw
        case rel => exact ⟨k + 1, by omega, by go_num, hB.drew.trans (hB1.mono (by simpa using hB.size))⟩
        case measure => simp [intOf]; omega
    · go_wp2
      go_ret
      exact ⟨rfl, hB⟩

def nextB (a b : Bt) : Bool := decide (b.off = wrap64 (a.off + a.recs.length)) && decide (a.ep ≤ b.ep)

set_option maxHeartbeats 1000000 in
theorem l1Next_any (x b : Bt) (a a2 : Option Addr) (c c2 : Nat) (w : World) :
    Calls Tryd.prog 35 #[.agg #[.int .i64 x.off, .int .i64 x.ep, .int .i64 x.pr, .int .i64 x.sq, .slice a x.recs.length c], .agg #[.int .i64 b.off, .int .i64 b.ep, .int .i64 b.pr, .int .i64 b.sq, .slice a2 b.recs.length c2]] w fun r w' => r = .returned (.bool (nextB x b)) ∧ Below w.heap.size w w' := by
  have hb : ∀ x y, Below w.heap.size w ((w.alloc x).alloc y) := fun _ _ => ((Below.refl _ _).alloc (Nat.le_refl _) _).alloc (by simp) _
  by_cases h1 : (b.off == wrap64 (x.off + x.recs.length)) = true
  · by_cases h2 : x.ep ≤ b.ep
    · go_enter Tryd.func35, Tryd.ntmps35
      go_wp2
      go_ret
      exact ⟨ret_bool (by simp at h1; simp [nextB, h1, h2]), hb _ _⟩
    · go_enter Tryd.func35, Tryd.ntmps35
      go_wp2
      go_ret
      exact ⟨ret_bool (by simp at h1; simp [nextB, h1]; omega), hb _ _⟩
  · have h1 : (b.off == wrap64 (x.off + x.recs.length)) = false := by simpa using h1
    go_enter Tryd.func35, Tryd.ntmps35
    go_wp2
    go_ret
    exact ⟨ret_bool (by simp at h1; simp [nextB, h1]), hb _ _⟩

def followB (p : Option Bt) (b : Bt) : Bool := match p with
  | none => true
  | some x => nextB x b

set_option maxHeartbeats 1000000 in
theorem mayFollow_any (bs : List Bt) (b : Bt) (a a2 : Option Addr) (c c2 : Nat) (w : World) (hs : Bats w a bs) (hl : bs.length ≤ maxLen) :
    Calls Tryd.prog 41 #[.slice a bs.length c, .agg #[.int .i64 b.off, .int .i64 b.ep, .int .i64 b.pr, .int .i64 b.sq, .slice a2 b.recs.length c2]] w fun r w' => r = .returned (.bool (followB bs.getLast? b)) ∧ Below w.heap.size w w' := by
  have hb : ∀ x, Below w.heap.size w (w.alloc x) := fun _ => (Below.refl _ _).alloc (Nat.le_refl _) _
  have hb2 : ∀ x y, Below w.heap.size w ((w.alloc x).alloc y) := fun _ _ => ((Below.refl _ _).alloc (Nat.le_refl _) _).alloc (by simp) _
  unfold maxLen at hl
  by_cases h0 : bs.length = 0
  · obtain rfl : bs = [] := List.eq_nil_of_length_eq_zero h0
    clear h0
    go_enter Tryd.func41, Tryd.ntmps41
    go_wp2
    go_ret
    exact ⟨rfl, hb _⟩
  · obtain ⟨n, hn⟩ : ∃ n, bs.length = n + 1 := ⟨bs.length - 1, by omega⟩
    obtain ⟨x, hx⟩ := getBt (bs := bs) (k := n) (by omega)
    have hlast : bs.getLast? = some x := by rw [List.getLast?_eq_getElem?, hn]; exact hx
    rw [hlast, hn]
    obtain ⟨kb, ob, rfl, hbt⟩ := (hs.below (hb (.cells #[.int .i64 b.off, .int .i64 b.ep, .int .i64 b.pr, .int .i64 b.sq, .slice a2 b.recs.length c2] 60))) n x hx
    obtain ⟨ra, rc, c0, c1, c2', c3, c4, -, -⟩ := hbt
    have hd : (((n + 1 : Nat) : Int) == 0) = false := by simp; omega
    have hn' : n + 1 ≤ 9223372036854775807 := by omega
    clear hs hlast hx h0 hn hl
    by_cases h1 : (b.off == wrap64 (x.off + x.recs.length)) = true
    · by_cases h2 : x.ep ≤ b.ep
      · go_enter Tryd.func41, Tryd.ntmps41
        go_wp2
        go_ret
        exact ⟨ret_bool (by simp at h1; simp [followB, nextB, h1, h2]), hb2 _ _⟩
      · go_enter Tryd.func41, Tryd.ntmps41
        go_wp2
        go_ret
        exact ⟨ret_bool (by simp at h1; simp [followB, nextB, h1]; omega), hb2 _ _⟩
    · have h1 : (b.off == wrap64 (x.off + x.recs.length)) = false := by simpa using h1
      go_enter Tryd.func41, Tryd.ntmps41
      go_wp2
      go_ret
      exact ⟨ret_bool (by simp at h1; simp [followB, nextB, h1]), hb2 _ _⟩

end Go.Proofs.YtopndglgbollfaaDoor
