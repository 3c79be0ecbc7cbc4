/-
  What every tied card of this seat wants: the table read off the row's list, a named variable that stays, a start for the witness.
-/
import Derived.Test.YtopndglgbollfaaDoorCards
import Derived.Test.YtopndglgbollfaaDoorTie
import Derived.Test.YtopndglgbollfaaDoorSum
import Derived.Test.YtopndglgbollfaaDoorOpen
import Derived.ProofKit
import Derived.OpenShut
import Derived.Deep.DeepHandedRow
import Derived.Lib.LaidTab
namespace Go.Proofs.YtopndglgbollfaaDoor
open Go.ChangeShapes Go.WideShapes Go.ChangeAt Go.RowKit

theorem gTab : Tryd.prog.globalNamed "loop.example/g00361/impl.sumTable" = some 0 := by kernel_rfl
theorem gTabType : (Tryd.prog.globals[0]?).map (·.type) = some 95 := by kernel_rfl
theorem cellsTab : Tryd.prog.cellsOf 95 = 16 := by kernel_rfl
theorem cellsU16 : Tryd.prog.cellsOf 92 = 1 := by kernel_rfl

theorem table {W : World} (h : laidMetH Tryd.prog [("loop.example/g00361/impl.sumTable", Rows.laid_loop_example_g00361_impl_sumTable)] W) : TabAt W := by
  have hT : Lib.TabIs Tryd.prog W "loop.example/g00361/impl.sumTable" .u16 [0, 4129, 8258, 12387, 16516, 20645, 24774, 28903, 33032, 37161, 41290, 45419, 49548, 53677, 57806, 61935] :=
    Lib.tabIs_of_head (rest := []) gTab gTabType Tryd.underlying95 Tryd.underlying92 cellsU16 cellsTab h
  intro i hi
  have hc := hT.cell gTab i (by simpa using hi)
  rw [hc]
  have : ∀ i, i < 16 → ([0, 4129, 8258, 12387, 16516, 20645, 24774, 28903, 33032, 37161, 41290, 45419, 49548, 53677, 57806, 61935] : List Int).getD i 0 = ((tab.getD i 0 : Nat) : Int) := by decide
  simpa using this i hi

section
variable {H : Type} {enc : TypeId × Value → H}

theorem var_below {n : String} {g : Nat} {W W' : World} (hg : Tryd.prog.globalNamed n = some g) (bel : Below W.heap.size W W') {cs : Array Value} (h : W.var? Tryd.prog n = some cs) : W'.var? Tryd.prog n = some cs := by
  have hlt : g < W.heap.size := by
    rcases Nat.lt_or_ge g W.heap.size with hlt | hge
    · exact hlt
    · simp [World.var?, hg, Array.getElem?_eq_none hge] at h
  rw [← h]
  simp only [World.var?, hg, Option.bind_some, bel.block g hlt]

/-- A named variable reads behind the call as it read before. -/
theorem vars_stay {n : String} {W W' : World} {gs : List (DataW H)} {ps : List MemPlace} {t : TypeId} {g0 : Nat} (hg0 : Tryd.prog.globalNamed n = some g0) (ht0 : (Tryd.prog.globals[g0]?).map (·.type) = some t)
    (hr : Tryd.prog.readableRec t = true) (hrow : t < Tryd.prog.types.size)
    (h : DataW.TrodVars enc Tryd.prog W (fun _ => true) [n] gs ps) (bel : Below W.heap.size W W') :
    DataW.TrodVars enc Tryd.prog W' (fun b => decide (b < W.heap.size)) [n] gs ps := by
  have hlt := h.lt
  obtain ⟨g, t', cs, fuel, d, p, rfl, hg, ht, hv, hd, rfl⟩ := trodVars_one h
  obtain rfl := Option.some.inj (hg0.symm.trans hg)
  obtain rfl := Option.some.inj (ht0.symm.trans ht)
  have hT : DataW.Trod enc Tryd.prog W 0 (fun _ => true) true t (.agg cs) d p := ⟨fuel, hd⟩
  obtain ⟨fuel', hd'⟩ := Below.trod Tryd.laidOut hr hrow hT bel (fun x hx => hlt x (List.mem_append_right _ hx))
  exact trodVars_mk1 hg ht (var_below hg bel hv) hd'
end

def laidWorld (P : Program) (os : Os) : World :=
  { World.holding P os ⟨#[], #[], []⟩ with heap := (World.holding P os ⟨#[], #[], []⟩).heap.modify 0 fun
      | .cells _ t frozen => .cells #[.int .u16 0, .int .u16 4129, .int .u16 8258, .int .u16 12387, .int .u16 16516, .int .u16 20645, .int .u16 24774, .int .u16 28903, .int .u16 33032, .int .u16 37161, .int .u16 41290, .int .u16 45419, .int .u16 49548, .int .u16 53677, .int .u16 57806, .int .u16 61935] t frozen
      | o => o }

end Go.Proofs.YtopndglgbollfaaDoor
