/-
  strings.Clone, and numbers read from a few bytes: the contracts of strings.Clone, spec.l1Value and impl.numberIn.
-/
import Derived.Test.YtopndglgbollfaaDoorDec2
import Derived.Lib.Strings
import Derived.Lib.BufferWrite
import Derived.Lib.UnsafeStr
namespace Go.Proofs.YtopndglgbollfaaDoor
open Go.RowKit

theorem i64_or_byte (n b : Nat) (hn : n < 16777216) (hb : b < 256) : bits .or .i64 ((n * 256 : Nat) : Int) (b : Int) = ((n * 256 + b : Nat) : Int) := by
  have e : n * 256 ||| b = n * 256 + b := by
    have := Nat.shiftLeft_add_eq_or_of_lt (i := 8) (b := b) hb n
    rw [Nat.shiftLeft_eq] at this
    exact this.symm
  show IntKind.i64.wrap ((BitVec.ofInt 64 ((n * 256 : Nat) : Int) ||| BitVec.ofInt 64 (b : Int)).toNat : Int) = _
  rw [BitVec.toNat_or, ofInt_u64 (n * 256) (by omega), ofInt_u64 b (by omega), IntKind.wrap_i64, e]
  omega

theorem val_take_lt (s : ByteArray) (k : Nat) (hk : k ≤ 2) : val (s.data.toList.take k) < 65536 := by
  have h := val_lt _ (s.data.toList.take k) rfl
  have h2 : (s.data.toList.take k).length ≤ 2 := by rw [List.length_take]; omega
  have h3 : 256 ^ (s.data.toList.take k).length ≤ 256 ^ 2 := Nat.pow_le_pow_right (by omega) h2
  have h4 : (256 : Nat) ^ 2 = 65536 := rfl
  omega

set_option maxHeartbeats 1000000 in
theorem l1Value_any (s : ByteArray) (w : World) (hs : s.size ≤ 3) :
    Calls Tryd.prog 48 #[.string s] w fun e w' => e = .returned (.int .i64 (val s.data.toList : Nat)) ∧ w' = w := by
  go_enter Tryd.func48, Tryd.ntmps48
  go_wp2
  go_loop [3, 4] (fun c i => ∃ k : Nat, k ≤ s.size ∧ i = .int .i64 k ∧ c = .int .i64 (val (s.data.toList.take k) : Nat)) (fun _ i => s.size - (intOf i).toNat)
  case atStart => exact ⟨0, Nat.zero_le _, rfl, rfl⟩
  case round =>
    obtain ⟨k, hk, rfl, rfl⟩ := hrel
    by_cases hlt : k < s.size
    · have hb := s[k].toNat_lt
      have hv := val_take_lt s k (by omega)
      have HS : Hid (val (s.data.toList.take (k + 1)) = val (s.data.toList.take k) * 256 + s[k].toNat) := by
        rw [takeB_snoc s k hlt, val_snoc]; rfl
      generalize val (s.data.toList.take k) = c at *
      have ho := i64_or_byte c s[k].toNat (by omega) (by omega)
      rw [Int.natCast_mul] at ho
      generalize c * 256 + s[k].toNat = d at *
      simp only [Int.cast_ofNat_Int] at ho
      go_wp2
      go_round
      case rel => exact ⟨k + 1, by omega, by go_num, by rw [HS.out]⟩
      case measure => simp [intOf]; omega
    · go_wp2
      go_ret
      exact ⟨ret_int (by rw [List.take_of_length_le (by simp; omega)]), rfl⟩

set_option maxHeartbeats 1000000 in
theorem numberIn_any (s : ByteArray) (w : World) (hs : s.size ≤ 3) :
    Calls Tryd.prog 56 #[.string s] w fun e w' => e = .returned (.int .i64 (val s.data.toList : Nat)) ∧ w' = w := by
  go_enter Tryd.func56, Tryd.ntmps56
  go_wp2
  go_loop [3, 4] (fun c i => ∃ k : Nat, k ≤ s.size ∧ i = .int .i64 k ∧ c = .int .i64 (val (s.data.toList.take k) : Nat)) (fun _ i => s.size - (intOf i).toNat)
  case atStart => exact ⟨0, Nat.zero_le _, rfl, rfl⟩
  case round =>
    obtain ⟨k, hk, rfl, rfl⟩ := hrel
    by_cases hlt : k < s.size
    · have hb := s[k].toNat_lt
      have hv := val_take_lt s k (by omega)
      have HS : Hid (val (s.data.toList.take (k + 1)) = val (s.data.toList.take k) * 256 + s[k].toNat) := by
        rw [takeB_snoc s k hlt, val_snoc]; rfl
      generalize val (s.data.toList.take k) = c at *
      have ho := i64_or_byte c s[k].toNat (by omega) (by omega)
      rw [Int.natCast_mul] at ho
      generalize c * 256 + s[k].toNat = d at *
      simp only [Int.cast_ofNat_Int] at ho
      go_wp2
      go_round
      case rel => exact ⟨k + 1, by omega, by go_num, by rw [HS.out]⟩
      case measure => simp [intOf]; omega
    · go_wp2
      go_ret
      exact ⟨ret_int (by rw [List.take_of_length_le (by simp; omega)]), rfl⟩

set_option maxRecDepth 100000 in
set_option maxHeartbeats 1000000 in
/-- A new text of the same bytes: what is there stays. -/
theorem cloneLite_any (s : ByteArray) (w : World) (hs : s.size ≤ 100000) :
    Calls Tryd.prog 53 #[.string s] w fun e w' => e = .returned (.string s) ∧ Below w.heap.size w w' := by
  by_cases h0 : s.size = 0
  · have e : s = ⟨#[]⟩ := ByteArray.ext (Array.eq_empty_of_size_eq_zero h0)
    subst e
    go_enter Tryd.func53, Tryd.ntmps53
    go_wp2
    go_ret
    exact ⟨rfl, Below.refl _ _⟩
  · have hne : s.data.toList ≠ [] := fun e => h0 (by rw [Lib.size_eq, e]; rfl)
    have hmk := run_make_row' (P := Tryd.prog) 86 5 (.int .u8 0) 1 Tryd.underlying86 Tryd.infoByte rfl .i64 .i64 s.size (by omega) (by omega)
    have hone : (Tryd.prog.info? 5).map (·.size) = some 1 := by kernel_rfl
    have hms : (madeCells #[Value.int .u8 0] s.size).size = s.size := size_madeCells _ _
    generalize madeCells #[Value.int .u8 0] s.size = M at *
    have hcp := Lib.run_copy_row_string (P := Tryd.prog) (w.alloc (.cells M 5)) 86 9 3 5 w.heap.size 0 s.size s.size s M 5 Tryd.underlying86 hone (heap_alloc_new w _) (Nat.le_refl _) (by omega)
    have hY : (M.toList.take 0 ++ Lib.byteCells s.data.toList ++ M.toList.drop (0 + s.size)).toArray = (Lib.byteCells s.data.toList).toArray := by
      rw [List.drop_of_length_le (by rw [Array.length_toList]; omega)]; simp
    rw [hY] at hcp
    have hrow : ((w.alloc (.cells M 5)).setRow w.heap.size (Lib.byteCells s.data.toList).toArray).heap[w.heap.size]? = some (.cells (Lib.byteCells s.data.toList).toArray 5 (0, 0)) :=
      setRow_heap _ _ M _ 5 (0, 0) (heap_alloc_new w _)
    have hlen : (Lib.byteCells s.data.toList).toArray.size = s.size := by rw [List.size_toArray, Lib.byteCells_length, ← Lib.size_eq]
    have hus := Lib.run_unsafeString_row (P := Tryd.prog) ((w.alloc (.cells M 5)).setRow w.heap.size (Lib.byteCells s.data.toList).toArray) 91 3 9 5 Tryd.underlying91 (by kernel_rfl) w.heap.size s.size
      (by unfold World.shape?; rw [hrow, ← hlen]) s.data.toList hne (by rw [← Lib.size_eq]; omega) (by rw [← Lib.size_eq]; omega)
      (fun j x hx => Lib.cells_of_row hrow s.size j _ (by rw [List.toList_toArray, List.take_of_length_le (by rw [Lib.byteCells_length, ← Lib.size_eq]; omega)]; simp [Lib.byteCells, hx]))
    rw [← Lib.size_eq] at hus
    have hB : Below w.heap.size w ((w.alloc (.cells M 5)).setRow w.heap.size (Lib.byteCells s.data.toList).toArray) :=
      ((Below.refl _ w).alloc (Nat.le_refl _) _).trans ⟨rfl, rfl, rfl, by simp, fun k hk => setRow_other _ _ _ _ (by omega)⟩
    generalize (Lib.byteCells s.data.toList).toArray = Y at *
    clear hY hrow hone hms hlen
    go_enter Tryd.func53, Tryd.ntmps53
    go_wp2
    go_ret
    exact ⟨rfl, Lib.below_freeze hB (p := ⟨w.heap.size, 0, none⟩) (Nat.le_refl _) _⟩

theorem clone_any (s : ByteArray) (w : World) (hs : s.size ≤ 100000) :
    Calls Tryd.prog 42 #[.string s] w fun e w' => e = .returned (.string s) ∧ Below w.heap.size w w' := by
  go_enter Tryd.func42, Tryd.ntmps42
  go_wp2_with (go_at_call 53; refine (cloneLite_any _ _ hs).mono ?_; rintro e w' ⟨rfl, hB⟩)
  go_ret
  exact ⟨rfl, hB⟩

end Go.Proofs.YtopndglgbollfaaDoor
