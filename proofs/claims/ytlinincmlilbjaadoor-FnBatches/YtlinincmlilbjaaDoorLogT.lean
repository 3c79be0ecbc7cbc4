/-
  What FnLogs draws, where (*l1Cur).batches keeps its contract: logText, DrawLogBytes, DrawReadLog.
-/
import Derived.Test.YtlinincmlilbjaaDoorCurO
import Derived.Test.YtlinincmlilbjaaDoorSpo
import Derived.Test.YtlinincmlilbjaaDoorLogEnc
namespace Go.Proofs.YtlinincmlilbjaaDoor
open Go.RowKit

/-- What (*l1Cur).batches answers. -/
def BatchesC : Prop := ∀ (p : Nat) (a : Option Addr) (bs : List UInt8) (c z : Nat) (w : World), Cur w p a bs c z → p < w.heap.size → z ≤ 1000000 →
  Calls Tryd.prog 42 #[.pointer (some ⟨p, 0, none⟩)] w fun e w' => ∃ (av : Option Addr) (cv : Nat) (l : List Bt), e = .returned (.slice av l.length cv) ∧ Bats w' av l ∧ l.length ≤ cv ∧ l.length ≤ 6 ∧ ∃ z', z' ≤ z + 10000 ∧ Cur w' p a bs c z' ∧ Far p w w'

theorem logS_size (bs : List Bt) : (logS bs).size ≤ 600 := by
  unfold logS
  split
  · rename_i h
    unfold logOk at h
    rw [Bool.and_eq_true] at h
    have := of_decide_eq_true h.2
    simpa [ByteArray.size] using this
  · decide

/-- The cursor over code, newly made. -/
theorem cur_newR {w : World} {a : Option Addr} {bs : List UInt8} {c : Nat} (hs : Bys w a bs) (hl : bs.length ≤ 1048576) :
    Cur (w.alloc (.cells #[.slice a bs.length c, .int .i64 0, .int .u64 0] 55)) w.heap.size a bs c 0 := by
  have hb : Below w.heap.size w (w.alloc (.cells #[.slice a bs.length c, .int .i64 0, .int .u64 0] 55)) := (Below.refl _ _).alloc (Nat.le_refl _) _
  refine ⟨by simp, by simp, ⟨0, by simp⟩, fun i => by simp [go_sem], hs.below hb, hs.lt, hl⟩

set_option maxRecDepth 100000 in
set_option maxHeartbeats 4000000 in
theorem logText_any (HB : BatchesC) (p : Nat) (a : Option Addr) (bs : List UInt8) (c z : Nat) (w : World) (h : Cur w p a bs c z) (hp : p < w.heap.size) (hz : z ≤ 1000000) :
    Calls Tryd.prog 29 #[.pointer (some ⟨p, 0, none⟩)] w fun e w' => ∃ s : ByteArray, e = .returned (.string s) ∧ s.size ≤ 602 ∧ ∃ z', z' ≤ z + 20000 ∧ Cur w' p a bs c z' ∧ Far p w w' := by
  go_enter Tryd.func29, Tryd.ntmps29
  go_wp2_with fail
  refine (HB _ _ _ _ _ _ h hp hz).mono ?_
  rintro r w1 ⟨av, cv, l, rfl, hl, hcv, h6, z1, hz1, C1, f1⟩
  have hp1 : p < w1.heap.size := Nat.lt_of_lt_of_le hp f1.bel.size
  go_wp2_with fail
  refine (specLogBytes_any l av cv _ hl (by unfold maxLen; omega)).mono ?_
  rintro r w2 ⟨rfl, hB2⟩
  have C2 := C1.below hB2
  have F2 : Far p w w2 := f1.trans (Far.of_below hB2 (by omega))
  have hp2 : p < w2.heap.size := Nat.lt_of_lt_of_le hp1 hB2.size
  have hsz := logS_size l
  generalize logS l = s at *
  clear hl C1 f1 hB2 h
  go_wp2_with fail
  refine (one_any _ _ _ _ _ _ _ C2 (by omega)).mono ?_
  rintro r w3 ⟨b, rfl, z3, hz3, C3, f3⟩
  have F3 : Far p w w3 := F2.trans f3
  have hp3 : p < w3.heap.size := Nat.lt_of_lt_of_le hp2 f3.bel.size
  clear C2 F2 f3
  cases b
  · go_wp2
    go_ret
    exact ⟨s, rfl, by omega, z3, by omega, C3, F3⟩
  · go_wp2_with fail
    refine (spoilt_any p a bs c z3 s _ w3 C3 hp3 (by omega) (by omega) (by decide) (by decide)).mono ?_
    rintro r w4 ⟨x, rfl, hx, z4, hz4, C4, f4⟩
    have F4 : Far p w w4 := F3.trans f4
    clear C3 F3 f4
    go_wp2
    go_ret
    exact ⟨x, rfl, by omega, z4, by omega, C4, F4⟩

set_option maxRecDepth 100000 in
set_option maxHeartbeats 4000000 in
theorem drawReadLog_any (HB : BatchesC) (a : Option Addr) (c : Nat) (bs : List UInt8) (w : World) (hs : Bys w a bs) (hl : bs.length ≤ 1048576) :
    Calls Tryd.prog 33 #[.slice a bs.length c] w fun e w' => ∃ s : ByteArray, e = .returned (.string s) ∧ s.size ≤ 602 ∧ Below w.heap.size w w' := by
  have hb : ∀ o, Below w.heap.size w (w.alloc o) := fun o => (Below.refl _ _).alloc (Nat.le_refl _) o
  have hC := cur_newR (c := c) hs hl
  obtain ⟨u, hu⟩ : ∃ u, w.alloc (.cells #[.slice a bs.length c, .int .i64 0, .int .u64 0] 55) = u := ⟨_, rfl⟩
  have hB0 : Below w.heap.size w u := by rw [← hu]; exact hb _
  have hps : w.heap.size < u.heap.size := by rw [← hu]; simp
  rw [hu] at hC
  go_enter Tryd.func33, Tryd.ntmps33
  go_wp2_with fail
  try rw [hu]
  clear hu
  refine (logText_any HB _ _ _ _ _ _ hC (by omega) (by omega)).mono ?_
  rintro r w1 ⟨s, rfl, h6, z1, hz1, C1, f1⟩
  have B1 := hB0.trans f1.bel
  clear hC C1 f1
  go_wp2
  go_ret
  exact ⟨s, rfl, h6, B1⟩

end Go.Proofs.YtlinincmlilbjaaDoor
