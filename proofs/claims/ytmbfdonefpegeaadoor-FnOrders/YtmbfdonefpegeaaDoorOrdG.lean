/-
  What FnOrders draws: spec.DrawIsLegal, DrawOnObject; calls that are the same. Made by mkordl.py.
-/
import Derived.Test.YtmbfdonefpegeaaDoorOrdE
import Derived.Test.YtmbfdonefpegeaaDoorOrdFJ
import Derived.Test.YtmbfdonefpegeaaDoorHiFK
namespace Go.Proofs.YtmbfdonefpegeaaDoor
open Go.RowKit

/-- The cursor over code, newly made. -/
theorem cur_newR {w : World} {a : Option Addr} {bs : List UInt8} {c : Nat} (hs : Bys w a bs) (hl : bs.length ≤ 1048576) :
    Cur (w.alloc (.cells #[.slice a bs.length c, .int .i64 0, .int .u64 0] 42)) w.heap.size a bs c 0 := by
  have hb : Below w.heap.size w (w.alloc (.cells #[.slice a bs.length c, .int .i64 0, .int .u64 0] 42)) := (Below.refl _ _).alloc (Nat.le_refl _) _
  refine ⟨by simp, by simp, ⟨0, by simp⟩, fun i => by simp [go_sem], hs.below hb, hs.lt, hl⟩

theorem ordFor_len (l : List Cl) : (ordForL l).length ≤ l.length := by
  unfold ordForL
  split
  · exact findL_len
  · simp

set_option maxRecDepth 100000 in
set_option maxHeartbeats 4000000 in
theorem drawIL_any (a : Option Addr) (c : Nat) (bs : List UInt8) (w : World) (hs : Bys w a bs) (hl : bs.length ≤ 1048576) :
    Calls Tryd.prog 4 #[.slice a bs.length c] w fun e w' => ∃ (av : Option Addr) (cv : Nat) (l : List Cl) (bv : Option Addr) (dv : Nat) (zs : List Int), e = .returned (.tuple #[.slice av l.length cv, .slice bv zs.length dv]) ∧ Cls w' av l ∧ Ints w' bv zs ∧ l.length ≤ cv ∧ zs.length ≤ dv ∧ l.length ≤ 8 ∧ zs.length ≤ 8 ∧ Below w.heap.size w w' := by
  have hb : ∀ o, Below w.heap.size w (w.alloc o) := fun o => alHi _ _
  have hC := cur_newR (c := c) hs hl
  obtain ⟨u, hu⟩ : ∃ u, w.alloc (.cells #[.slice a bs.length c, .int .i64 0, .int .u64 0] 42) = u := ⟨_, rfl⟩
  have hB0 : Below w.heap.size w u := by rw [← hu]; exact hb _
  have hps : w.heap.size < u.heap.size := by rw [← hu]; simp
  rw [hu] at hC
  go_enter Tryd.func4, Tryd.ntmps4
  go_wp2_with fail
  try rw [hu]
  clear hu
  refine (calls_any _ _ _ _ _ _ hC (by omega)).mono ?_
  rintro r w1 ⟨av, cv, l, rfl, hE, hcv, h8, ⟨z1, hz1, C1⟩, f1⟩
  have B1 := hB0.trans f1.bel
  have hp1 : w.heap.size < w1.heap.size := Nat.lt_of_lt_of_le hps f1.bel.size
  clear hC
  have hlm : l.length ≤ maxLen := by unfold maxLen; omega
  have hol := ordFor_len l
  go_wp2_with fail
  refine (specOrderForK_any av cv l _ hE.1 hlm hcv).mono ?_
  rintro r w2 ⟨ax, cx, rfl, ⟨hI, hcx⟩, hR, hB2⟩
  obtain ⟨X, hX⟩ : ∃ X, ordForL l = X := ⟨_, rfl⟩
  obtain ⟨ok, hok⟩ : ∃ b, ordForB l = b := ⟨_, rfl⟩
  rw [hX] at hI hcx hR hol
  rw [hX, hok]
  have f2 : Far w.heap.size w1 w2 := Far.of_below hB2 (by omega)
  have C2 := C1.below hB2
  have hE2 := C_far hE f2
  have hI2 : Ints w2 ax X ∧ ∀ b, InI ax X.length b → b ≠ w.heap.size := ⟨hI, fun b hb => by have := (hR.lt hb).1; omega⟩
  have B2 := B1.trans (hB2.mono (by omega))
  have hIf : ∀ {u u' : World}, (Ints u ax X ∧ ∀ b, InI ax X.length b → b ≠ w.heap.size) → Far w.heap.size u u' → (Ints u' ax X ∧ ∀ b, InI ax X.length b → b ≠ w.heap.size) := fun {u u'} h hf => ⟨h.1.of_block fun b hb => hf.blk b (h.1.lt b hb) (h.2 b hb), h.2⟩
  clear hX hok hI hR hB2 hE C1
  cases ok
  · go_wp2_with fail
    refine (orderOf_any _ _ _ _ _ l.length _ C2 (by omega) h8).mono ?_
    rintro r w3 ⟨bv, dv, zs, rfl, hZ, hdv, hz8, -, f3⟩
    have hE3 := C_far hE2 f3
    have B3 := B2.trans f3.bel
    clear C2 hE2 hIf
    go_wp2
    refine bodyPost_ret (v := .tuple #[.slice av l.length cv, .slice bv zs.length dv]) (by simp [results, Tryd.results4, go_sem]) rfl ⟨av, cv, l, bv, dv, zs, rfl, hE3.1, hZ.1, hcv, hdv, h8, hz8, B3⟩
  · go_wp2_with fail
    refine (one_any _ _ _ _ _ _ _ C2 (by omega)).mono ?_
    rintro r w3 ⟨b, rfl, z3, hz3, C3, f3⟩
    have hE3 := C_far hE2 f3
    have hI3 := hIf hI2 f3
    have B3 := B2.trans f3.bel
    clear C2 hE2 hI2 hIf
    cases b
    · go_wp2_with fail
      refine (orderOf_any _ _ _ _ _ l.length _ C3 (by omega) h8).mono ?_
      rintro r w4 ⟨bv, dv, zs, rfl, hZ, hdv, hz8, -, f4⟩
      have hE4 := C_far hE3 f4
      have B4 := B3.trans f4.bel
      clear C3 hE3
      go_wp2
      refine bodyPost_ret (v := .tuple #[.slice av l.length cv, .slice bv zs.length dv]) (by simp [results, Tryd.results4, go_sem]) rfl ⟨av, cv, l, bv, dv, zs, rfl, hE4.1, hZ.1, hcv, hdv, h8, hz8, B4⟩
    · clear C3
      go_wp2
      refine bodyPost_ret (v := .tuple #[.slice av l.length cv, .slice ax X.length cx]) (by simp [results, Tryd.results4, go_sem]) rfl ⟨av, cv, l, ax, cx, X, rfl, hE3.1, hI3.1, hcv, hcx, h8, by omega, B3⟩

set_option maxRecDepth 100000 in
set_option maxHeartbeats 4000000 in
theorem drawOO_any (a : Option Addr) (c : Nat) (bs : List UInt8) (w : World) (hs : Bys w a bs) (hl : bs.length ≤ 1048576) :
    Calls Tryd.prog 11 #[.slice a bs.length c] w fun e w' => ∃ (av : Option Addr) (cv : Nat) (l : List Cl) (z : Int), e = .returned (.tuple #[.slice av l.length cv, .int .i64 z]) ∧ Cls w' av l ∧ l.length ≤ cv ∧ l.length ≤ 8 ∧ Below w.heap.size w w' := by
  have hb : ∀ o, Below w.heap.size w (w.alloc o) := fun o => alHi _ _
  have hC := cur_newR (c := c) hs hl
  obtain ⟨u, hu⟩ : ∃ u, w.alloc (.cells #[.slice a bs.length c, .int .i64 0, .int .u64 0] 42) = u := ⟨_, rfl⟩
  have hB0 : Below w.heap.size w u := by rw [← hu]; exact hb _
  have hps : w.heap.size < u.heap.size := by rw [← hu]; simp
  rw [hu] at hC
  go_enter Tryd.func11, Tryd.ntmps11
  go_wp2_with fail
  try rw [hu]
  clear hu
  refine (calls_any _ _ _ _ _ _ hC (by omega)).mono ?_
  rintro r w1 ⟨av, cv, l, rfl, hE, hcv, h8, ⟨z1, hz1, C1⟩, f1⟩
  have B1 := hB0.trans f1.bel
  have hp1 : w.heap.size < w1.heap.size := Nat.lt_of_lt_of_le hps f1.bel.size
  clear hC
  go_wp2_with fail
  refine (pick_any _ _ _ _ _ _ _ C1 (by omega)).mono ?_
  rintro r w2 ⟨d, rfl, hd, z2, hz2, C2, f2⟩
  have hE2 := C_far hE f2
  have B2 := B1.trans f2.bel
  clear hE C1 C2
  go_wp2
  refine bodyPost_ret (v := .tuple #[.slice av l.length cv, .int .i64 ((d : Int) - 1)]) (by simp [results, Tryd.results11, go_sem]) rfl ⟨av, cv, l, (d : Int) - 1, rfl, hE2.1, hcv, h8, B2⟩

set_option maxRecDepth 100000 in
set_option maxHeartbeats 4000000 in
theorem sameCalls_same (a b : Option Addr) (c d : Nat) (l : List Cl) (w : World) (hx : Cls w a l) (hy : Cls w b l) (hl : l.length ≤ maxLen) :
    Calls Tryd.prog 14 #[.slice a l.length c, .slice b l.length d] w fun e w' => e = .returned (.bool true) ∧ Below w.heap.size w w' := by
  unfold maxLen at hl
  go_enter Tryd.func14, Tryd.ntmps14
  go_wp2
  go_loopw [13] (fun i wr => ∃ k : Nat, k ≤ l.length ∧ i = .int .i64 k ∧ Below w.heap.size w wr) (fun i _ => l.length - (intOf i).toNat)
  case atStart => exact ⟨0, Nat.zero_le _, rfl, Below.refl _ _⟩
  case round =>
    obtain ⟨k, hk, rfl, hB⟩ := hrel
    by_cases hlt : k < l.length
    · obtain ⟨xb, xo, rfl, c0, c1, c2, c3, c4, c5⟩ := (hx.below hB) k _ (clA_get hlt)
      obtain ⟨yb, yo, rfl, d0, d1, d2, d3, d4, d5⟩ := (hy.below hB) k _ (clA_get hlt)
      have hki : (k : Int) < (l.length : Int) := by omega
      have hdr : Below wr.heap.size wr wr.drew := (Below.refl _ _).drew
      have B2 := stHi hB hdr
      generalize clA l k = x at *
      go_wp2_with fail
      go_region
      go_wp2
      go_roundw
      case rel => exact ⟨k + 1, by omega, by go_num, B2⟩
      case measure => simp [intOf]; omega
    · obtain rfl : k = l.length := by omega
      go_wp2
      go_ret
      exact ⟨rfl, hB⟩

end Go.Proofs.YtmbfdonefpegeaaDoor
