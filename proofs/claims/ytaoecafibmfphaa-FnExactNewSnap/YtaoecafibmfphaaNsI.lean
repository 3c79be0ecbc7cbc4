/-
  New worlds of chapter 8, the program's side: impl.blankPicture.
-/
import Derived.Test.YtaoecafibmfphaaNsFin
import Derived.Test.YtaoecafibmfphaaSnI
import Derived.Deep.RegionHeld3
namespace Go.Proofs.Ytaoecafibmfphaa
open Go.RowKit

/-- What a blank picture's making leaves. -/
def BlankAns (w : World) (n : Nat) (e : Ending) (w' : World) : Prop :=
  ∃ b2 b3, e = .returned (.agg #[.bool false, .int .i64 0, .slice (some ⟨b2, 0, none⟩) n n, .slice (some ⟨b3, 0, none⟩) n n]) ∧ w.heap.size ≤ b2 ∧ w.heap.size ≤ b3 ∧ b2 ≠ b3 ∧ w'.rowIs b2 3 n (fun _ => .int .i64 0) ∧ w'.rowIs b3 4 n (fun _ => .bool false) ∧ Below w.heap.size w w'

theorem rowI_made (w : World) (n : Nat) : (w.alloc (.cells (madeCells #[Value.int .i64 0] n) 3)).rowIs w.heap.size 3 n (fun _ => .int .i64 0) := World.rowIs_made _ _ _ _
theorem rowO_made (w : World) (n : Nat) : (w.alloc (.cells (madeCells #[Value.bool false] n) 4)).rowIs w.heap.size 4 n (fun _ => .bool false) := World.rowIs_made _ _ _ _

theorem row_later {u v : World} {b b' n : Nat} {t : TypeId} {f : Nat → Value} (h : u.rowIs b t n f) (hb : Below u.heap.size u v) (e : b' = b) : v.drew.rowIs b' t n f := by
  rw [e]
  refine h.of_block ?_
  exact hb.block b h.lt

set_option maxRecDepth 100000 in
set_option maxHeartbeats 2000000 in
theorem blankPicture_any (n : Nat) (w : World) (hn : n ≤ 1048576) :
    Calls Try.prog 42 #[.int .i64 (n : Int)] w fun e w' => BlankAns w n e w' := by
  have hmk := run_make_row' (P := Try.prog) 22 3 (.int .i64 0) 8 Try.underlying22 Try.infoInt rfl .i64 .i64 n (by omega) (by omega)
  have hmb := run_make_row' (P := Try.prog) 48 4 (.bool false) 1 Try.underlying48 Try.infoBool rfl .i64 .i64 n (by omega) (by omega)
  go_enter Try.func42, Try.ntmps42
  go_wp2
  go_region
  · go_wp2
    refine bodyPost_ret (v := .agg #[.bool false, .int .i64 0, .slice (some ⟨w.heap.size + 1, 0, none⟩) n n, .slice (some ⟨w.heap.size + 1 + 1, 0, none⟩) n n]) (by simp [results, Try.results42, go_sem]) rfl ⟨_, _, rfl, by omega, by omega, by omega, ?_, ?_, ?_⟩
    · exact row_later (rowI_made _ n) (alB _ _) (by simp)
    · exact row_later (rowO_made _ n) (Below.refl _ _) (by simp)
    · exact ((((Below.refl _ _).alloc (Nat.le_refl _) _).alloc (by simp) _).alloc (by simp; omega) _).drew
  · go_wp2
    refine bodyPost_ret (v := .agg #[.bool false, .int .i64 0, .slice (some ⟨w.heap.size + 1 + 1, 0, none⟩) n n, .slice (some ⟨w.heap.size + 1, 0, none⟩) n n]) (by simp [results, Try.results42, go_sem]) rfl ⟨_, _, rfl, by omega, by omega, by omega, ?_, ?_, ?_⟩
    · exact row_later (rowI_made _ n) (Below.refl _ _) (by simp)
    · exact row_later (rowO_made _ n) (alB _ _) (by simp)
    · exact ((((Below.refl _ _).alloc (Nat.le_refl _) _).alloc (by simp) _).alloc (by simp; omega) _).drew

end Go.Proofs.Ytaoecafibmfphaa
