/-
  How a Election that came in reads. Made by mktop.py.
-/
import Derived.Test.YtjicphdjipihfaaOpenBag9
import Derived.Test.YtjicphdjipihfaaElc
namespace Go.Proofs.Ytjicphdjipihfaa
open Go.ChangeShapes Go.WideShapes Go.ChangeAt Go.RowKit

theorem Try.cellsLawEl : Try.prog.cellsOf 40 = 3 := by kernel_rfl

section
variable {H : Type} {enc : TypeId × Value → H} {w : World} {base : Nat} {spare : Nat → Bool} {held : Bool}

set_option maxRecDepth 100000 in
theorem topElection_of {fuel : Nat} {cs : List Value} {x : DataW H × List MemPlace} (h : DataW.trod enc Try.prog w base spare held fuel 40 cs = some x) :
    ∃ (s : El) (a0 : Option Addr) (c0 : Nat) (a1 : Option Addr) (c1 : Nat) (a2 : Option Addr) (c2 : Nat), cs = [.slice a0 s.svs.length c0, .slice a1 s.post.length c1, .slice a2 s.led.length c2] ∧ ElR w s a0 a1 a2 ∧ ElL s := by
  obtain ⟨xs, n, -, -, hl, hlen, hf⟩ := DataW.trod_struct Try.underlying40 h
  rw [Try.cellsLawEl] at hl
  match cs, hl, xs, hlen with
  | [c0, c1, c2], _, [y0, y1, y2], _ =>
    have h0 := hf 0 _ rfl
    have h1 := hf 1 _ rfl
    have h2 := hf 2 _ rfl
    simp [Try.cellsLawSvs, Try.cellsLawLts, Try.cellsLawVts] at h0 h1 h2
    obtain ⟨r0, k0, s0, e0, x0, m0⟩ := allServer_of h0
    obtain ⟨r1, k1, s1, e1, x1, m1⟩ := allLetter_of h1
    obtain ⟨r2, k2, s2, e2, x2, m2⟩ := allVote_of h2
    simp at e0 e1 e2
    subst e0 e1 e2
    exact ⟨⟨s0, s1, s2⟩, r0, k0, r1, k1, r2, k2, rfl, ⟨x0, x1, x2⟩, ⟨m0, m1, m2⟩⟩

end
end Go.Proofs.Ytjicphdjipihfaa
