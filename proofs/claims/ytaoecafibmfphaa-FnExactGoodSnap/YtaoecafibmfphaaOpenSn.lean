/-
  How a world of chapter 8 that came in reads.
-/
import Derived.Test.YtaoecafibmfphaaOpenBag8
import Derived.Test.YtaoecafibmfphaaSnp
namespace Go.Proofs.Ytaoecafibmfphaa
open Go.ChangeShapes Go.WideShapes Go.ChangeAt Go.RowKit

theorem Try.cellsLawSnap : Try.prog.cellsOf 35 = 5 := by kernel_rfl

section
variable {H : Type} {enc : TypeId × Value → H} {w : World} {base : Nat} {spare : Nat → Bool} {held : Bool}

set_option maxRecDepth 100000 in
theorem snap_of {fuel : Nat} {cs : List Value} {x : DataW H × List MemPlace} (h : DataW.trod enc Try.prog w base spare held fuel 35 cs = some x) :
    ∃ (s : Sn) (a0 : Option Addr) (c0 : Nat) (a1 : Option Addr) (c1 : Nat) (a2 : Option Addr) (c2 : Nat), cs = [.slice a0 s.am.length c0, .slice a1 s.chs.length c1, .slice a2 s.pcs.length c2, .int .i64 s.sent, .int .i64 s.total] ∧ SnR w s a0 a1 a2 ∧ SnL s := by
  obtain ⟨xs, n, -, -, hl, hlen, hf⟩ := DataW.trod_struct Try.underlying35 h
  rw [Try.cellsLawSnap] at hl
  match cs, hl, xs, hlen with
  | [c0, c1, c2, c3, c4], _, [y0, y1, y2, y3, y4], _ =>
    have h0 := hf 0 _ rfl
    have h1 := hf 1 _ rfl
    have h2 := hf 2 _ rfl
    have h3 := hf 3 _ rfl
    have h4 := hf 4 _ rfl
    simp [Try.cellsInt, Try.cellsInts, Try.cellsLawChs, Try.cellsLawPcs] at h0 h1 h2 h3 h4
    obtain ⟨r0, k0, s0, e0, x0, m0⟩ := ints_of h0
    obtain ⟨r1, k1, s1, e1, x1, m1⟩ := allChan_of h1
    obtain ⟨r2, k2, s2, e2, x2, m2⟩ := allPicture_of h2
    obtain ⟨s3, e3, -, -⟩ := DataW.trod_int Try.underlying3 h3
    obtain ⟨s4, e4, -, -⟩ := DataW.trod_int Try.underlying3 h4
    simp at e0 e1 e2 e3 e4
    subst e0 e1 e2 e3 e4
    exact ⟨⟨s0, s1, s2, s3, s4⟩, r0, k0, r1, k1, r2, k2, rfl, ⟨x0, x1, x2⟩, ⟨m0, m1, m2⟩⟩

end
end Go.Proofs.Ytaoecafibmfphaa
