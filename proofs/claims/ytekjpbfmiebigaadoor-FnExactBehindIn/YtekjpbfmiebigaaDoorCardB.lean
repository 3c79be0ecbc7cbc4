/-
  What the card of BehindIn wants: errLate's cell read off the row's list, a start for the witness. Made by mkcublaw.py.
-/
import Derived.Test.YtekjpbfmiebigaaDoorCards
import Derived.Test.YtekjpbfmiebigaaDoorTie
import Derived.Test.YtekjpbfmiebigaaDoorOpenCluN
import Derived.ProofKit
import Derived.OpenShut
import Derived.LaidSub
import Derived.Deep.DeepHandedRow
import Derived.Stop.LaidErr
import Derived.LaidLaws
import Derived.OpenVars
import Derived.ChangeVars
import Derived.RowKitTokens
namespace Go.Proofs.YtekjpbfmiebigaaDoor
open Go.ChangeShapes Go.WideShapes Go.ChangeAt Go.RowKit

theorem gErr : Tryd.prog.globalNamed "loop.example/g00361/impl.errLate" = some 0 := by kernel_rfl
theorem gErrType : (Tryd.prog.globals[0]?).map (·.type) = some 72 := by kernel_rfl
theorem starE : "*" ++ "errors.errorString" = "*errors.errorString" := by decide
theorem rowES (u : TypeId) (h : Tryd.prog.typeName? 3 u = some "*errors.errorString") : u = 126 :=
  typeName_ptr_named (nm := "errors.errorString") (by rw [starE]; kernel_rfl) (by kernel_rfl) (by decide) u (by rw [starE]; exact h)
theorem cellsE0 : Tryd.prog.cellsOf 150 = 1 := by kernel_rfl
theorem cellsSt : Tryd.prog.cellsOf 9 = 1 := by kernel_rfl

theorem errLate_cell {W : World} (h : laidMetH Tryd.prog [("loop.example/g00361/impl.errLate", Rows.laid_loop_example_g00361_impl_errLate)] W) : ∃ pe, W.cell? ⟨0, 0, none⟩ = some (.iface 126 (.pointer (some pe))) := by
  have h' : laidMet Tryd.prog [("loop.example/g00361/impl.errLate", Rows.laid_loop_example_g00361_impl_errLate)] W := h
  obtain ⟨a, s, hv, -, -, -⟩ := laid_sentinel h' gErr gErrType Tryd.underlying72 rowES Tryd.underlying126 Tryd.underlying150 rfl rfl Tryd.underlying9 cellsE0 cellsSt
  exact ⟨a, by simpa using World.var?_cell gErr hv 0⟩

abbrev textB : ByteArray := { data := #[116, 104, 101, 32, 118, 105, 101, 119, 32, 105, 115, 32, 110, 111, 116, 32, 116, 104, 101, 32, 116, 114, 117, 116, 104] }
noncomputable def lowB : Nat := (World.holding Tryd.prog default ⟨#[], #[], []⟩).heap.size
noncomputable def laidWorldB (os : Os) : World :=
  let w0 := World.holding Tryd.prog os ⟨#[.cells #[.string textB] 150], #[], []⟩
  { w0 with heap := w0.heap.modify 0 fun
      | .cells _ t frozen => .cells #[.iface 126 (.pointer (some ⟨lowB, 0, none⟩))] t frozen
      | o => o }

end Go.Proofs.YtekjpbfmiebigaaDoor
