/-
  The leaders of a Cluster that came in are numbers of 64 bits. By hand.
-/
import Derived.Test.YtekjpbfmiebigaaDoorOpenClu
import Derived.Test.YtekjpbfmiebigaaDoorCuI3
namespace Go.Proofs.YtekjpbfmiebigaaDoor
open Go.ChangeShapes Go.WideShapes Go.ChangeAt Go.RowKit

section
variable {H : Type} {enc : TypeId × Value → H} {w : World} {base : Nat} {spare : Nat → Bool} {held : Bool}

theorem rng_of_wf {n : Int} (h : (Lit.int .i64 n).wf = true) : -9223372036854775808 ≤ n ∧ n < 9223372036854775808 := by
  simp [Lit.wf, IntKind.min, IntKind.max, IntKind.signed, IntKind.bits] at h
  omega

set_option maxRecDepth 100000 in
theorem viewRng_of {fuel : Nat} {cs : List Value} {x : DataW H × List MemPlace} (h : DataW.trod enc Tryd.prog w base spare held fuel 34 cs = some x) (v : Int) (hv : cs[1]? = some (.int .i64 v)) : -9223372036854775808 ≤ v ∧ v < 9223372036854775808 := by
  obtain ⟨xs, n, -, -, hl, hlen, hf⟩ := DataW.trod_struct Tryd.underlying34 h
  rw [Tryd.cellsLawVw] at hl
  match cs, hl, xs, hlen with
  | [c0, c1, c2], _, [y0, y1, y2], _ =>
    have h1 := hf 1 _ rfl
    simp [Tryd.cellsInt] at h1
    obtain ⟨s1, e1, -, hw⟩ := DataW.trod_int Tryd.underlying3 h1
    simp at e1 hv
    subst e1
    simp at hv
    subst hv
    exact rng_of_wf hw

set_option maxRecDepth 100000 in
theorem nodeRng_of {fuel : Nat} {cs : List Value} {x : DataW H × List MemPlace} (h : DataW.trod enc Tryd.prog w base spare held fuel 84 cs = some x) (v : Int) (hv : cs[1]? = some (.int .i64 v)) : -9223372036854775808 ≤ v ∧ v < 9223372036854775808 := by
  obtain ⟨xs, n, -, -, hl, hlen, hf⟩ := DataW.trod_struct Tryd.underlying84 h
  rw [Tryd.cellsLawNd] at hl
  match cs, hl, xs, hlen with
  | [c0, c1, c2, c3, c4, c5], _, [y0, y1, y2, y3], _ =>
    have h0 := hf 0 _ rfl
    simp [Tryd.cellsLawVw] at h0
    exact viewRng_of h0 v (by simpa using hv)

set_option maxRecDepth 100000 in
theorem nodesRng_of {fuel : Nat} {cs : List Value} {x : DataW H × List MemPlace} (h : DataW.trod enc Tryd.prog w base spare held fuel 35 cs = some x) (a : Option Addr) (c : Nat) (fs : List Nd) (hcs : cs = [.slice a fs.length c]) (hr : Nds w a fs) (f : Nd) (hf : f ∈ fs) : -9223372036854775808 ≤ f.leader ∧ f.leader < 9223372036854775808 := by
  obtain ⟨i, hi⟩ := List.getElem?_of_mem hf
  have hil := (List.getElem?_eq_some_iff.1 hi).1
  rcases Deep.open_slice Tryd.underlying35 h with ⟨rfl, -⟩ | ⟨a', len, cap, m, n, D, Pl, rfl, -, hl, hm, hmm, -, hx⟩
  · simp at hcs
    omega
  · simp only [List.cons.injEq, Value.slice.injEq, and_true] at hcs
    obtain ⟨rfl, rfl, rfl⟩ := hcs
    have hlm : fs.length ≤ m := by rw [hmm]; split <;> omega
    obtain ⟨cs', h1, h2⟩ := hx i (by omega)
    rw [Tryd.cellsLawNd] at h1
    obtain ⟨k, o, ea, r2, k2, r3, k3, r4, k4, e0, e1, -⟩ := hr i f hi
    simp only [Option.some.injEq] at ea
    subst ea
    obtain ⟨hlen, _, hcell⟩ := World.cells?_some h1
    have hc := hcell 1 (by omega)
    rw [add_plain, add_plain, e1] at hc
    exact nodeRng_of h2 f.leader hc.symm

set_option maxRecDepth 100000 in
theorem clusterRng_of {fuel : Nat} {cs : List Value} {x : DataW H × List MemPlace} (h : DataW.trod enc Tryd.prog w base spare held fuel 38 cs = some x) (s : Cu) (a0 a1 a2 : Option Addr) (c0 c1 c2 : Nat) (hcs : cs = [.int .i64 s.tep, .int .i64 s.tld, .slice a0 s.tst.length c0, .slice a1 s.nodes.length c1, .slice a2 s.acked.length c2]) (hr : CuR w s a0 a1 a2) : CuN s := by
  subst hcs
  obtain ⟨xs, n, -, -, hl, hlen, hf⟩ := DataW.trod_struct Tryd.underlying38 h
  match xs, hlen with
  | [y0, y1, y2], _ =>
    have h0 := hf 0 _ rfl
    have h1 := hf 1 _ rfl
    simp [Tryd.cellsLawVw, Tryd.cellsLawNds] at h0 h1
    exact ⟨viewRng_of h0 s.tld (by simp), fun f hf => nodesRng_of h1 a1 c1 s.nodes rfl hr.nodes f hf⟩

end
end Go.Proofs.YtekjpbfmiebigaaDoor
