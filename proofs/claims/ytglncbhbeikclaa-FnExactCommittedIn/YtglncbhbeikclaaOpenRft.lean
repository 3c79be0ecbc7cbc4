/-
  How a Raft that came in reads. Made by mktop.py.
-/
import Derived.Test.YtglncbhbeikclaaOpenBag10
import Derived.Test.YtglncbhbeikclaaRft
namespace Go.Proofs.Ytglncbhbeikclaa
open Go.ChangeShapes Go.WideShapes Go.ChangeAt Go.RowKit

theorem Try.cellsLawRa : Try.prog.cellsOf 34 = 2 := by kernel_rfl

section
variable {H : Type} {enc : TypeId × Value → H} {w : World} {base : Nat} {spare : Nat → Bool} {held : Bool}

set_option maxRecDepth 100000 in
theorem topRaft_of {fuel : Nat} {cs : List Value} {x : DataW H × List MemPlace} (h : DataW.trod enc Try.prog w base spare held fuel 34 cs = some x) :
    ∃ (s : Ra) (a0 : Option Addr) (c0 : Nat) (a1 : Option Addr) (c1 : Nat), cs = [.slice a0 s.prs.length c0, .slice a1 s.mail.length c1] ∧ RaR w s a0 a1 ∧ RaL s := by
  obtain ⟨xs, n, -, -, hl, hlen, hf⟩ := DataW.trod_struct Try.underlying34 h
  rw [Try.cellsLawRa] at hl
  match cs, hl, xs, hlen with
  | [c0, c1], _, [y0, y1], _ =>
    have h0 := hf 0 _ rfl
    have h1 := hf 1 _ rfl
    simp [Try.cellsLawPes, Try.cellsLawMas] at h0 h1
    obtain ⟨r0, k0, s0, e0, x0, m0⟩ := allPeer_of h0
    obtain ⟨r1, k1, s1, e1, x1, m1⟩ := allMail_of h1
    simp at e0 e1
    subst e0 e1
    exact ⟨⟨s0, s1⟩, r0, k0, r1, k1, rfl, ⟨x0, x1⟩, ⟨m0, m1⟩⟩

end
end Go.Proofs.Ytglncbhbeikclaa
