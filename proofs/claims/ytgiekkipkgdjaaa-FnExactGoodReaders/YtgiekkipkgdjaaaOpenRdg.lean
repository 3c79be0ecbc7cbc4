/-
  How a Readers that came in reads. Made by mktop.py.
-/
import Derived.Test.YtgiekkipkgdjaaaOpenBag14
import Derived.Test.YtgiekkipkgdjaaaRdg
namespace Go.Proofs.Ytgiekkipkgdjaaa
open Go.ChangeShapes Go.WideShapes Go.ChangeAt Go.RowKit

theorem Try.cellsLawRg : Try.prog.cellsOf 36 = 4 := by kernel_rfl

section
variable {H : Type} {enc : TypeId × Value → H} {w : World} {base : Nat} {spare : Nat → Bool} {held : Bool}

set_option maxRecDepth 100000 in
theorem topReaders_of {fuel : Nat} {cs : List Value} {x : DataW H × List MemPlace} (h : DataW.trod enc Try.prog w base spare held fuel 36 cs = some x) :
    ∃ (s : Rg) (a0 : Option Addr) (c0 : Nat) (a1 : Option Addr) (c1 : Nat) (a2 : Option Addr) (c2 : Nat), cs = [.int .i64 s.gen, .slice a0 s.rds.length c0, .slice a1 s.com.length c1, .slice a2 s.ends.length c2] ∧ RgR w s a0 a1 a2 ∧ RgL s := by
  obtain ⟨xs, n, -, -, hl, hlen, hf⟩ := DataW.trod_struct Try.underlying36 h
  rw [Try.cellsLawRg] at hl
  match cs, hl, xs, hlen with
  | [c0, c1, c2, c3], _, [y0, y1, y2, y3], _ =>
    have h0 := hf 0 _ rfl
    have h1 := hf 1 _ rfl
    have h2 := hf 2 _ rfl
    have h3 := hf 3 _ rfl
    simp [Try.cellsInt, Try.cellsLawRxs, Try.cellsInts] at h0 h1 h2 h3
    obtain ⟨s0, e0, -, -⟩ := DataW.trod_int Try.underlying3 h0
    obtain ⟨r1, k1, s1, e1, x1, m1⟩ := allReader_of h1
    obtain ⟨r2, k2, s2, e2, x2, m2⟩ := ints_of h2
    obtain ⟨r3, k3, s3, e3, x3, m3⟩ := ints_of h3
    simp at e0 e1 e2 e3
    subst e0 e1 e2 e3
    exact ⟨⟨s0, s1, s2, s3⟩, r1, k1, r2, k2, r3, k3, rfl, ⟨x1, x2, x3⟩, ⟨m1, m2, m3⟩⟩

end
end Go.Proofs.Ytgiekkipkgdjaaa
