/-
  The sum of a text: what spec.SumOf and impl.SumOf answer where the table holds its numbers: the same.
-/
import Derived.Test.YtopndglgbollfaaDoorStrs
import Derived.Test.YtopndglgbollfaaDoorCrc
import Derived.WalkKit
import Derived.WalkSpells
import Derived.WalkLawsBesides
import Derived.Laws.BitsAllLaws
namespace Go.Proofs.YtopndglgbollfaaDoor
open Go.RowKit

/-- The table lies at block 0 and holds its sixteen numbers. -/
def TabAt (w : World) : Prop := ∀ i, i < 16 → w.cell? ⟨0, i, none⟩ = some (.int .u16 (tab.getD i 0 : Nat))

theorem sumHalf_any (c h : Nat) (w : World) (hc : c < 65536) (hh : h < 16) (hT : TabAt w) :
    Calls Tryd.prog 60 #[.int .u16 c, .int .u8 h] w fun e w' => e = .returned (.int .u16 (half c h : Nat)) ∧ w' = w := by
  have hi : c / 4096 ^^^ h < 16 := Nat.xor_lt_two_pow (n := 4) (by omega) (by omega)
  have hx : bits .xor .u16 ((c : Int) / 4096) (h : Int) = ((c / 4096 ^^^ h : Nat) : Int) := by
    have := u16_xor_nat (c / 4096) h (by omega) (by omega)
    rw [← this]; simp
  have hcell := hT _ hi
  have ht := tab_lt (c / 4096 ^^^ h)
  have hm : IntKind.u16.wrap ((c : Int) * 16) = ((c * 16 % 65536 : Nat) : Int) := by rw [IntKind.wrap_u16]; omega
  have hm2 : c * 16 % 65536 < 65536 := Nat.mod_lt _ (by omega)
  have he : Hid (half c h = (c * 16 % 65536) ^^^ tab.getD (c / 4096 ^^^ h) 0) := rfl
  rw [he.out]
  generalize tab.getD (c / 4096 ^^^ h) 0 = t at *
  generalize c / 4096 ^^^ h = i at *
  generalize c * 16 % 65536 = m at *
  have hr := u16_xor_nat m t hm2 ht
  have hi' : (0 : Int) ≤ (i : Int) ∧ (i : Int) < 16 := by omega
  clear he hT
  go_enter Tryd.func60, Tryd.ntmps60
  go_wp2
  go_ret
  exact ⟨rfl, rfl⟩

theorem takeB_snoc (s : ByteArray) (k : Nat) (h : k < s.size) : s.data.toList.take (k + 1) = s.data.toList.take k ++ [s[k]] := by
  rw [List.take_succ_eq_append_getElem (by simpa using h)]; rfl

theorem and15 (b : Nat) (h : b < 2 ^ 8) : bits .and .u8 (b : Int) 15 = ((b % 16 : Nat) : Int) := by
  have := u8_and15 (b : Int) (by omega) (by omega)
  rw [this]; simp

theorem div16 (b : Nat) : ((b : Int) / 16) = ((b / 16 : Nat) : Int) := by simp

theorem ret_int2 {k : IntKind} {a b : Int} {v : Value} (h : a = b) : Ending.returned (.tuple #[.int k a, v]) = .returned (.tuple #[.int k b, v]) := by rw [h]

set_option maxHeartbeats 1000000 in
theorem implSum_any (s : ByteArray) (w : World) (hs : s.size ≤ 600) (hT : TabAt w) :
    Calls Tryd.prog 57 #[.string s] w fun e w' => e = .returned (.tuple #[.int .i64 (crcOf s.data.toList : Nat), .bool true]) ∧ w' = w := by
  go_enter Tryd.func57, Tryd.ntmps57
  go_wp2
  go_loop [4, 5] (fun c i => ∃ k : Nat, k ≤ s.size ∧ i = .int .i64 k ∧ c = .int .u16 (crcOf (s.data.toList.take k) : Nat)) (fun _ i => s.size - (intOf i).toNat)
  case atStart => exact ⟨0, Nat.zero_le _, rfl, rfl⟩
  case round =>
    obtain ⟨k, hk, rfl, rfl⟩ := hrel
    have hlt16 := crcOf_lt (s.data.toList.take k)
    by_cases hlt : k < s.size
    · have hb := s[k].toNat_lt
      have HS : Hid (crcOf (s.data.toList.take (k + 1)) = halfByte (crcOf (s.data.toList.take k)) s[k].toNat) := by
        rw [takeB_snoc s k hlt, crcOf_snoc, byte_eq _ _ hlt16 hb]; rfl
      generalize crcOf (s.data.toList.take k) = c at *
      have h15 := and15 s[k].toNat hb
      have h16 := div16 s[k].toNat
      have hx : s[k].toNat / 16 < 16 := by omega
      have hy : s[k].toNat % 16 < 16 := by omega
      unfold halfByte at HS
      generalize s[k].toNat / 16 = x at *
      generalize s[k].toNat % 16 = y at *
      go_wp2_with fail
      refine (sumHalf_any c x _ hlt16 hx hT).mono ?_
      rintro e w' ⟨rfl, rfl⟩
      have hlt2 := half_lt c x
      generalize half c x = d at *
      go_wp2_with fail
      refine (sumHalf_any d y _ hlt2 hy hT).mono ?_
      rintro e w' ⟨rfl, rfl⟩
      go_wp2
      go_round
      case rel => exact ⟨k + 1, by omega, by go_num, by rw [HS.out]⟩
      case measure => simp [intOf]; omega
    · go_wp2
      go_ret2
      exact ⟨ret_int2 (by rw [List.take_of_length_le (by simp; omega)]), rfl⟩

theorem i64_xor_nat (a b : Nat) (ha : a < 65536) (hb : b < 65536) : bits .xor .i64 (a : Int) (b : Int) = ((a ^^^ b : Nat) : Int) := by
  have hx : a ^^^ b < 2 ^ 16 := Nat.xor_lt_two_pow (by omega) (by omega)
  show IntKind.i64.wrap ((BitVec.ofInt 64 (a : Int) ^^^ BitVec.ofInt 64 (b : Int)).toNat : Int) = _
  rw [BitVec.toNat_xor, ofInt_u64 a (by omega), ofInt_u64 b (by omega), IntKind.wrap_i64]
  omega

theorem i64_and_ffff (a : Nat) (ha : a < 131072) : bits .and .i64 (a : Int) 65535 = ((a % 65536 : Nat) : Int) := by
  have e : a &&& 65535 = a % 65536 := Nat.and_two_pow_sub_one_eq_mod a 16
  show IntKind.i64.wrap ((BitVec.ofInt 64 (a : Int) &&& BitVec.ofInt 64 ((65535 : Nat) : Int)).toNat : Int) = _
  rw [BitVec.toNat_and, ofInt_u64 a (by omega), ofInt_u64 65535 (by omega), IntKind.wrap_i64, e]
  omega

def bitTo : Nat → Nat → Nat
  | 0, c => c
  | j + 1, c => crcBit (bitTo j c)

theorem bitTo_lt (j : Nat) {c : Nat} (h : c < 65536) : bitTo j c < 65536 := by
  induction j with
  | zero => exact h
  | succ j ih => exact crcBit_lt ih

theorem bitTo_8 (c b : Nat) : bitTo 8 (c ^^^ b * 256) = crcByte c b := rfl

set_option maxHeartbeats 1000000 in
theorem specSum_any (s : ByteArray) (w : World) (hs : s.size ≤ 600) :
    Calls Tryd.prog 55 #[.string s] w fun e w' => e = .returned (.int .i64 (crcOf s.data.toList : Nat)) ∧ w' = w := by
  go_enter Tryd.func55, Tryd.ntmps55
  go_wp2
  go_loop [3, 4] (fun c i => ∃ k : Nat, k ≤ s.size ∧ i = .int .i64 k ∧ c = .int .i64 (crcOf (s.data.toList.take k) : Nat)) (fun _ i => s.size - (intOf i).toNat)
  case atStart => exact ⟨0, Nat.zero_le _, rfl, rfl⟩
  case round =>
    obtain ⟨k, hk, rfl, rfl⟩ := hrel
    have hlt16 := crcOf_lt (s.data.toList.take k)
    by_cases hlt : k < s.size
    · have hb := s[k].toNat_lt
      have HS : Hid (crcOf (s.data.toList.take (k + 1)) = bitTo 8 (crcOf (s.data.toList.take k) ^^^ s[k].toNat * 256)) := by
        rw [takeB_snoc s k hlt, crcOf_snoc]; rfl
      generalize crcOf (s.data.toList.take k) = c at *
      have hx := i64_xor_nat c (s[k].toNat * 256) hlt16 (by omega)
      have hm : ((s[k].toNat : Int) * 256) = ((s[k].toNat * 256 : Nat) : Int) := by simp
      have hl2 : c ^^^ s[k].toNat * 256 < 65536 := Nat.xor_lt_two_pow (n := 16) hlt16 (by omega)
      rw [← hm] at hx
      clear hm
      generalize c ^^^ s[k].toNat * 256 = d at *
      go_wp2
      clear hb hlt16
      go_loop [3, 5] (fun c i => ∃ j : Nat, j ≤ 8 ∧ i = .int .i64 j ∧ c = .int .i64 (bitTo j d : Nat)) (fun _ i => 8 - (intOf i).toNat)
      case atStart => exact ⟨0, Nat.zero_le _, rfl, rfl⟩
      case round =>
        obtain ⟨j, hj, rfl, rfl⟩ := hrel
        have hlt3 := bitTo_lt j hl2
        by_cases hj8 : j < 8
        · have HB : Hid (bitTo (j + 1) d = crcBit (bitTo j d)) := rfl
          generalize bitTo j d = e at *
          by_cases hbig : 65535 < 2 * e
          · have HC : Hid (crcBit e = (2 * e % 65536) ^^^ 4129) := by unfold crcBit; exact if_pos hbig
            have ha := i64_and_ffff (e * 2) (by omega)
            rw [Int.natCast_mul, Nat.mul_comm e 2] at ha
            have hm2 : 2 * e % 65536 < 65536 := Nat.mod_lt _ (by omega)
            generalize 2 * e % 65536 = m at *
            have hxo := i64_xor_nat m 4129 hm2 (by omega)
            simp only [Int.cast_ofNat_Int] at ha hxo
            go_wp2
            go_round
            case rel => exact ⟨j + 1, by omega, by go_num, by rw [HB.out, HC.out]⟩
            case measure => simp [intOf]; omega
          · have HC : Hid (crcBit e = 2 * e) := by unfold crcBit; exact if_neg hbig
            go_wp2
            go_round
            case rel => exact ⟨j + 1, by omega, by go_num, by rw [HB.out, HC.out]; go_num⟩
            case measure => simp [intOf]; omega
        · obtain rfl : j = 8 := by omega
          go_wp2
          go_round
          case rel => exact ⟨k + 1, by omega, by go_num, by rw [HS.out]⟩
          case measure => simp [intOf]; omega
    · go_wp2
      go_ret
      exact ⟨ret_int (by rw [List.take_of_length_le (by simp; omega)]), rfl⟩

/-- What SumOf answers. -/
def sumI (s : ByteArray) : Int := if s.size ≤ 600 then (crcOf s.data.toList : Nat) else 0
def sumB (s : ByteArray) : Bool := decide (s.size ≤ 600)

theorem implSumOf_any (s : ByteArray) (w : World) (hl : s.size ≤ maxLen) (hT : TabAt w) :
    Calls Tryd.prog 57 #[.string s] w fun e w' => e = .returned (.tuple #[.int .i64 (sumI s), .bool (sumB s)]) ∧ w' = w := by
  unfold maxLen at hl
  by_cases h : s.size ≤ 600
  · have e1 : sumI s = (crcOf s.data.toList : Nat) := if_pos h
    have e2 : sumB s = true := decide_eq_true h
    rw [e1, e2]
    exact implSum_any s w h hT
  · have e1 : sumI s = 0 := if_neg h
    have e2 : sumB s = false := decide_eq_false h
    rw [e1, e2]
    clear e1 e2
    go_enter Tryd.func57, Tryd.ntmps57
    go_wp2
    go_ret2
    exact ⟨rfl, rfl⟩

end Go.Proofs.YtopndglgbollfaaDoor
