/-
  How a Control that came in reads. Made by mktop.py.
-/
import Derived.Test.YtfehndedkffpfaaDoorOpenBag12
import Derived.Test.YtfehndedkffpfaaDoorCtl
namespace Go.Proofs.YtfehndedkffpfaaDoor
open Go.ChangeShapes Go.WideShapes Go.ChangeAt Go.RowKit

theorem Tryd.cellsLawCt : Tryd.prog.cellsOf 25 = 3 := by kernel_rfl

section
variable {H : Type} {enc : TypeId × Value → H} {w : World} {base : Nat} {spare : Nat → Bool} {held : Bool}

set_option maxRecDepth 100000 in
theorem topControl_of {fuel : Nat} {cs : List Value} {x : DataW H × List MemPlace} (h : DataW.trod enc Tryd.prog w base spare held fuel 25 cs = some x) :
    ∃ (s : Ct) (a0 : Option Addr) (c0 : Nat) (a1 : Option Addr) (c1 : Nat), cs = [.slice a0 s.brks.length c0, .slice a1 s.parts.length c1, .int .i64 s.next] ∧ CtR w s a0 a1 ∧ CtL s := by
  obtain ⟨xs, n, -, -, hl, hlen, hf⟩ := DataW.trod_struct Tryd.underlying25 h
  rw [Tryd.cellsLawCt] at hl
  match cs, hl, xs, hlen with
  | [c0, c1, c2], _, [y0, y1, y2], _ =>
    have h0 := hf 0 _ rfl
    have h1 := hf 1 _ rfl
    have h2 := hf 2 _ rfl
    simp [Tryd.cellsInt, Tryd.cellsLawBrs, Tryd.cellsLawPns] at h0 h1 h2
    obtain ⟨r0, k0, s0, e0, x0, m0⟩ := allBroker_of h0
    obtain ⟨r1, k1, s1, e1, x1, m1⟩ := allPartition_of h1
    obtain ⟨s2, e2, -, -⟩ := DataW.trod_int Tryd.underlying3 h2
    simp at e0 e1 e2
    subst e0 e1 e2
    exact ⟨⟨s0, s1, s2⟩, r0, k0, r1, k1, rfl, ⟨x0, x1⟩, ⟨m0, m1⟩⟩

end
end Go.Proofs.YtfehndedkffpfaaDoor
