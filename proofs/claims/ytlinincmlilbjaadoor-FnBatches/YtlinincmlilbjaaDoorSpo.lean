/-
  The drawing of spoilt texts: spec.(*l1Cur).spoilt.
-/
import Derived.Test.YtlinincmlilbjaaDoorCur2
import Derived.Deep.LoopGhost
import Derived.Deep.RegionHeld3
import Derived.Deep.Cut
import Derived.Deep.CutRange
namespace Go.Proofs.YtlinincmlilbjaaDoor
open Go.RowKit

set_option maxRecDepth 100000 in
set_option maxHeartbeats 8000000 in
theorem spoilt_any (p : Nat) (a : Option Addr) (bs : List UInt8) (c z : Nat) (t s : ByteArray) (w : World) (h : Cur w p a bs c z) (hp : p < w.heap.size) (hz : z ≤ 800000000) (ht : t.size ≤ 2000000) (h0 : 0 < s.size) (hs : s.size ≤ 1000) :
    Calls Tryd.prog 43 #[.pointer (some ⟨p, 0, none⟩), .string t, .string s] w fun e w' => ∃ x : ByteArray, e = .returned (.string x) ∧ x.size ≤ t.size + 2 ∧ ∃ z', z' ≤ z + 30 ∧ Cur w' p a bs c z' ∧ Far p w w' := by
  go_enter Tryd.func43, Tryd.ntmps43
  go_wp2_with fail
  refine (pick_any _ _ _ _ _ _ _ h (by omega)).mono ?_
  rintro r w1 ⟨d, rfl, hd, z1, hz1, C1, f1⟩
  have hd3 : d < 3 := by omega
  clear h hd
  go_wp2_with fail
  go_loopg [1, 7] d (fun gn tv nv wr => ∃ (x : ByteArray) (zz : Nat), tv = .string x ∧ nv = .int .i64 (gn : Int) ∧ x.size + gn ≤ t.size + d ∧ zz + 8 * gn ≤ z + 2 + 8 * d ∧ Cur wr p a bs c zz ∧ Far p w wr)
  case atStart => exact ⟨t, z1, rfl, rfl, by omega, by omega, C1, f1⟩
  case round =>
    obtain ⟨x, zz, rfl, rfl, hx, hzz, C, f⟩ := hrel
    by_cases hgo : 0 < gk ∧ 0 < x.size
    · obtain ⟨hpos, hx0⟩ := hgo
      have hpI : (0 : Int) < (gk : Int) := by omega
      have hxI : (0 : Int) < (x.size : Int) := by omega
      have hp1 : p < wr.heap.size := Nat.lt_of_lt_of_le hp f.bel.size
      go_wp2_with fail
      refine (pick_any _ _ _ _ _ _ _ C (by omega)).mono ?_
      rintro r w2 ⟨i, rfl, hi, z2, hz2, C2, f2⟩
      have hix : i < x.size := by omega
      have F2 := f.trans f2
      have hp2 : p < w2.heap.size := Nat.lt_of_lt_of_le hp1 f2.bel.size
      clear C f f2 hi
      go_wp2_with fail
      refine (pick_any _ _ _ _ _ _ _ C2 (by omega)).mono ?_
      rintro r w3 ⟨k, rfl, hk, z3, hz3, C3, f3⟩
      have hks : k < s.size := by omega
      have F3 := F2.trans f3
      have hp3 : p < w3.heap.size := Nat.lt_of_lt_of_le hp2 f3.bel.size
      clear C2 F2 f3 hk
      have hcv := run_convert_bytes_back (P := Tryd.prog) (w3.alloc (.cells #[.int .u8 ((s[k]'hks).toNat : Int)] 5)) 22 9 5 ⟨w3.heap.size, 0, none⟩ 1 [s[k]'hks] Tryd.underlying22 Tryd.underlying5 Tryd.underlying9 (fun j hj => by
        obtain rfl : j = 0 := by simpa using hj
        simp [go_sem])
      simp only [List.length_singleton] at hcv
      have B4 : Below w3.heap.size w3 (w3.alloc (.cells #[.int .u8 ((s[k]'hks).toNat : Int)] 5)) := (Below.refl _ _).alloc (Nat.le_refl _) _
      have C4 := C3.below B4
      have F4 := F3.trans (Far.of_below B4 (by omega))
      have hp4 : p < (w3.alloc (.cells #[.int .u8 ((s[k]'hks).toNat : Int)] 5)).heap.size := by simp; omega
      obtain ⟨w4, hw4⟩ : ∃ u, w3.alloc (.cells #[.int .u8 ((s[k]'hks).toNat : Int)] 5) = u := ⟨_, rfl⟩
      have HW : Hid (w3.alloc (.cells #[.int .u8 ((s[k]'hks).toNat : Int)] 5) = w4) := hw4
      rw [hw4] at C4 F4 hp4
      obtain ⟨y, hy⟩ : ∃ y : ByteArray, (⟨[s[k]'hks].toArray⟩ : ByteArray) = y := ⟨_, rfl⟩
      have hy1 : y.size = 1 := by rw [← hy]; rfl
      rw [hy] at hcv
      clear hw4 B4 C3 F3 hp3 hy
      go_upto_region 6 with fail
      rw [HW.out]
      clear HW hcv
      go_wp2_with fail
      refine (pick_any _ _ _ _ _ _ _ C4 (by omega)).mono ?_
      rintro r w5 ⟨q, rfl, hq, z5, hz5, C5, f5⟩
      have hdr : Below w5.heap.size w5 w5.drew := (Below.refl _ _).drew
      have hp5 : p < w5.heap.size := Nat.lt_of_lt_of_le hp4 f5.bel.size
      have C6 := C5.below hdr
      have F6 := (F4.trans f5).trans (Far.of_below hdr (by omega))
      have hgI : (gk : Int) - 1 = ((gk - 1 : Nat) : Int) := by omega
      have hi0 : (0 : Int) ≤ (i : Int) := by omega
      have hiI : (i : Int) ≤ (x.size : Int) := by omega
      have hi1 : (i : Int) + 1 ≤ (x.size : Int) := by omega
      clear C4 F4 hp4 f5 C5 hp5 hdr
      rcases (by omega : q = 0 ∨ q = 1 ∨ 1 < q) with rfl | rfl | hq1
      · go_wp2_with fail
        go_region
        go_wp2
        go_roundg (gk - 1)
        case measure => omega
        case rel => exact ⟨_, z5, rfl, by first | rfl | (congr 1), by simp only [ByteArray.size_append, ByteArray.size_extract, hy1]; omega, by omega, C6, F6⟩
      · go_wp2_with fail
        go_region
        go_wp2
        go_roundg (gk - 1)
        case measure => omega
        case rel => exact ⟨_, z5, rfl, by first | rfl | (congr 1), by simp only [ByteArray.size_append, ByteArray.size_extract, hy1]; omega, by omega, C6, F6⟩
      · have q0 : ((q : Int) == 0) = false := by simp; omega
        have q1 : ((q : Int) == 1) = false := by simp; omega
        go_wp2_with fail
        go_region
        go_wp2
        go_roundg (gk - 1)
        case measure => omega
        case rel => exact ⟨_, z5, rfl, by first | rfl | (congr 1), by simp only [ByteArray.size_append, ByteArray.size_extract]; omega, by omega, C6, F6⟩
    · by_cases hpos : 0 < gk
      · have hpI : (0 : Int) < (gk : Int) := by omega
        have hx0 : x.size = 0 := by omega
        have hxI : ¬ (0 : Int) < (x.size : Int) := by omega
        go_wp2
        go_ret
        exact ⟨x, rfl, by omega, zz, by omega, C, f⟩
      · obtain rfl : gk = 0 := by omega
        go_wp2
        go_ret
        exact ⟨x, rfl, by omega, zz, by omega, C, f⟩

end Go.Proofs.YtlinincmlilbjaaDoor
