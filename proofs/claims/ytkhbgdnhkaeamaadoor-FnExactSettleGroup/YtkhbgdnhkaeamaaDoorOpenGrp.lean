/-
  How a Group that came in reads. Made by mktop.py.
-/
import Derived.Test.YtkhbgdnhkaeamaaDoorOpenBag11
import Derived.Test.YtkhbgdnhkaeamaaDoorGrp
namespace Go.Proofs.YtkhbgdnhkaeamaaDoor
open Go.ChangeShapes Go.WideShapes Go.ChangeAt Go.RowKit

theorem Tryd.cellsLawGr : Tryd.prog.cellsOf 33 = 5 := by kernel_rfl

section
variable {H : Type} {enc : TypeId × Value → H} {w : World} {base : Nat} {spare : Nat → Bool} {held : Bool}

set_option maxRecDepth 100000 in
theorem topGroup_of {fuel : Nat} {cs : List Value} {x : DataW H × List MemPlace} (h : DataW.trod enc Tryd.prog w base spare held fuel 33 cs = some x) :
    ∃ (s : Gr) (a0 : Option Addr) (c0 : Nat) (a1 : Option Addr) (c1 : Nat), cs = [.int .i64 s.epoch, .int .i64 s.leader, .slice a0 s.steps.length c0, .int .i64 s.high, .slice a1 s.reps.length c1] ∧ GrR w s a0 a1 ∧ GrL s := by
  obtain ⟨xs, n, -, -, hl, hlen, hf⟩ := DataW.trod_struct Tryd.underlying33 h
  rw [Tryd.cellsLawGr] at hl
  match cs, hl, xs, hlen with
  | [c0, c1, c2, c3, c4], _, [y0, y1, y2, y3, y4], _ =>
    have h0 := hf 0 _ rfl
    have h1 := hf 1 _ rfl
    have h2 := hf 2 _ rfl
    have h3 := hf 3 _ rfl
    have h4 := hf 4 _ rfl
    simp [Tryd.cellsInt, Tryd.cellsInts, Tryd.cellsLawRps] at h0 h1 h2 h3 h4
    obtain ⟨s0, e0, -, -⟩ := DataW.trod_int Tryd.underlying3 h0
    obtain ⟨s1, e1, -, -⟩ := DataW.trod_int Tryd.underlying3 h1
    obtain ⟨r2, k2, s2, e2, x2, m2⟩ := ints_of h2
    obtain ⟨s3, e3, -, -⟩ := DataW.trod_int Tryd.underlying3 h3
    obtain ⟨r4, k4, s4, e4, x4, m4⟩ := allReplica_of h4
    simp at e0 e1 e2 e3 e4
    subst e0 e1 e2 e3 e4
    exact ⟨⟨s0, s1, s2, s3, s4⟩, r2, k2, r4, k4, rfl, ⟨x2, x4⟩, ⟨m2, m4⟩⟩

end
end Go.Proofs.YtkhbgdnhkaeamaaDoor
