/-
  strings.Clone: a new text of the same bytes; what is there stays. Condition: the text has at most 100,000 bytes.
-/
import Derived.Test.YthbhokpjedndaaaStrs
import Derived.Lib.Strings
import Derived.Lib.BufferWrite
import Derived.Lib.UnsafeStr
namespace Go.Proofs.Ythbhokpjedndaaa
open Go.RowKit

theorem Try.infoByte : (Try.prog.info? 5).map (fun i => (i.zero, i.size, i.bytes)) = some (some (.int .u8 0), 1, 1) := by kernel_rfl

set_option maxRecDepth 100000 in
set_option maxHeartbeats 1000000 in
/-- A new text of the same bytes: what is there stays. -/
theorem cloneLite_any (s : ByteArray) (w : World) (hs : s.size ≤ 100000) :
    Calls Try.prog 88 #[.string s] w fun e w' => e = .returned (.string s) ∧ Below w.heap.size w w' := by
  by_cases h0 : s.size = 0
  · have e : s = ⟨#[]⟩ := ByteArray.ext (Array.eq_empty_of_size_eq_zero h0)
    subst e
    go_enter Try.func88, Try.ntmps88
    go_wp2
    go_ret
    exact ⟨rfl, Below.refl _ _⟩
  · have hne : s.data.toList ≠ [] := fun e => h0 (by rw [Lib.size_eq, e]; rfl)
    have hmk := run_make_row' (P := Try.prog) 116 5 (.int .u8 0) 1 Try.underlying116 Try.infoByte rfl .i64 .i64 s.size (by omega) (by omega)
    have hone : (Try.prog.info? 5).map (·.size) = some 1 := by kernel_rfl
    have hms : (madeCells #[Value.int .u8 0] s.size).size = s.size := size_madeCells _ _
    generalize madeCells #[Value.int .u8 0] s.size = M at *
    have hcp := Lib.run_copy_row_string (P := Try.prog) (w.alloc (.cells M 5)) 116 9 3 5 w.heap.size 0 s.size s.size s M 5 Try.underlying116 hone (heap_alloc_new w _) (Nat.le_refl _) (by omega)
    have hY : (M.toList.take 0 ++ Lib.byteCells s.data.toList ++ M.toList.drop (0 + s.size)).toArray = (Lib.byteCells s.data.toList).toArray := by
      rw [List.drop_of_length_le (by rw [Array.length_toList]; omega)]; simp
    rw [hY] at hcp
    have hrow : ((w.alloc (.cells M 5)).setRow w.heap.size (Lib.byteCells s.data.toList).toArray).heap[w.heap.size]? = some (.cells (Lib.byteCells s.data.toList).toArray 5 (0, 0)) :=
      setRow_heap _ _ M _ 5 (0, 0) (heap_alloc_new w _)
    have hlen : (Lib.byteCells s.data.toList).toArray.size = s.size := by rw [List.size_toArray, Lib.byteCells_length, ← Lib.size_eq]
    have hus := Lib.run_unsafeString_row (P := Try.prog) ((w.alloc (.cells M 5)).setRow w.heap.size (Lib.byteCells s.data.toList).toArray) 120 3 9 5 Try.underlying120 (by kernel_rfl) w.heap.size s.size
      (by unfold World.shape?; rw [hrow, ← hlen]) s.data.toList hne (by rw [← Lib.size_eq]; omega) (by rw [← Lib.size_eq]; omega)
      (fun j x hx => Lib.cells_of_row hrow s.size j _ (by rw [List.toList_toArray, List.take_of_length_le (by rw [Lib.byteCells_length, ← Lib.size_eq]; omega)]; simp [Lib.byteCells, hx]))
    rw [← Lib.size_eq] at hus
    have hB : Below w.heap.size w ((w.alloc (.cells M 5)).setRow w.heap.size (Lib.byteCells s.data.toList).toArray) :=
      ((Below.refl _ w).alloc (Nat.le_refl _) _).trans ⟨rfl, rfl, rfl, by simp, fun k hk => setRow_other _ _ _ _ (by omega)⟩
    generalize (Lib.byteCells s.data.toList).toArray = Y at *
    clear hY hrow hone hms hlen
    go_enter Try.func88, Try.ntmps88
    go_wp2
    go_ret
    exact ⟨rfl, Lib.below_freeze hB (p := ⟨w.heap.size, 0, none⟩) (Nat.le_refl _) _⟩

theorem clone_any (s : ByteArray) (w : World) (hs : s.size ≤ 100000) :
    Calls Try.prog 84 #[.string s] w fun e w' => e = .returned (.string s) ∧ Below w.heap.size w w' := by
  go_enter Try.func84, Try.ntmps84
  go_wp2_with (go_at_call 88; refine (cloneLite_any _ _ hs).mono ?_; rintro e w' ⟨rfl, hB⟩)
  go_ret
  exact ⟨rfl, hB⟩

end Go.Proofs.Ythbhokpjedndaaa
