/-
  How a Cluster that came in reads. Made by mktop.py.
-/
import Derived.Test.YtekjpbfmiebigaaDoorOpenBag17
import Derived.Test.YtekjpbfmiebigaaDoorClu
namespace Go.Proofs.YtekjpbfmiebigaaDoor
open Go.ChangeShapes Go.WideShapes Go.ChangeAt Go.RowKit

theorem Tryd.cellsLawCu : Tryd.prog.cellsOf 38 = 5 := by kernel_rfl

section
variable {H : Type} {enc : TypeId × Value → H} {w : World} {base : Nat} {spare : Nat → Bool} {held : Bool}

set_option maxRecDepth 100000 in
theorem topCluster_of {fuel : Nat} {cs : List Value} {x : DataW H × List MemPlace} (h : DataW.trod enc Tryd.prog w base spare held fuel 38 cs = some x) :
    ∃ (s : Cu) (a0 : Option Addr) (c0 : Nat) (a1 : Option Addr) (c1 : Nat) (a2 : Option Addr) (c2 : Nat), cs = [.int .i64 s.tep, .int .i64 s.tld, .slice a0 s.tst.length c0, .slice a1 s.nodes.length c1, .slice a2 s.acked.length c2] ∧ CuR w s a0 a1 a2 ∧ CuL s := by
  obtain ⟨xs, n, -, -, hl, hlen, hf⟩ := DataW.trod_struct Tryd.underlying38 h
  rw [Tryd.cellsLawCu] at hl
  match cs, hl, xs, hlen with
  | [c0, c1, c2, c3, c4], _, [y0, y1, y2], _ =>
    have h0 := hf 0 _ rfl
    have h1 := hf 1 _ rfl
    have h2 := hf 2 _ rfl
    simp [Tryd.cellsLawVw, Tryd.cellsLawNds, Tryd.cellsLawRws] at h0 h1 h2
    obtain ⟨v, r2, k2, e2, x2, m2⟩ := oneView_of h0
    obtain ⟨r3, k3, s3, e3, x3, m3⟩ := allNode_of h1
    obtain ⟨r4, k4, s4, e4, x4, m4⟩ := allRow_of h2
    simp at e2 e3 e4
    obtain ⟨rfl, rfl, rfl⟩ := e2
    subst e3 e4
    exact ⟨⟨v.epoch, v.leader, v.steps, s3, s4⟩, r2, k2, r3, k3, r4, k4, rfl, ⟨x2, x3, x4⟩, ⟨m2, m3, m4⟩⟩

end
end Go.Proofs.YtekjpbfmiebigaaDoor
