/-
  Histories, the specification's side: calls on an object, overlaps. Made by mkhis.py.
-/
import Derived.Test.YthnkncmhbeeiaaaDoorHiS2
import Derived.Test.YthnkncmhbeeiaaaDoorZan
import Derived.Test.YthnkncmhbeeiaaaDoorAppZ
namespace Go.Proofs.YthnkncmhbeeiaaaDoor
open Go.RowKit

def clC (x : Cl) : List Value := [.int .i64 x.client, .int .i64 x.object, .bool x.write, .int .i64 x.value, .int .i64 x.beg, .int .i64 x.fin]
theorem clC_len (x : Cl) : (clC x).length = 6 := rfl
theorem clC_one (x : Cl) : ∀ u ∈ clC x, u.oneCell' = true := fun u hu => by simp [clC] at hu; rcases hu with rfl | rfl | rfl | rfl | rfl | rfl <;> rfl
theorem cls_of_owns {w : World} {B : Nat} {a : Option Addr} {c : Nat} {l : List Cl} (h : w.ownsRow B 39 6 (.slice a l.length c) l.length (l.flatMap clC)) : Cls w a l := fun i z hi => by
  obtain ⟨k, e, -, hc⟩ := ownZ_flat (C := clC) (s := 6) clC_len h i z hi
  exact ⟨k, 0, e, by simpa using hc 0 _ rfl, by simpa using hc 1 _ rfl, by simpa using hc 2 _ rfl, by simpa using hc 3 _ rfl, by simpa using hc 4 _ rfl, by simpa using hc 5 _ rfl⟩
theorem rowCl_of_owns {w : World} {B : Nat} {a : Option Addr} {c n : Nat} {xs : List Value} (h : w.ownsRow B 39 6 (.slice a n c) n xs) : RowCl w B a n := by
  by_cases h0 : n = 0
  · exact .inl h0
  · obtain ⟨g, cap, f, hv, hg, hn, hR, -⟩ := row_of_ownsZ h (by omega)
    simp only [Value.slice.injEq] at hv
    obtain ⟨rfl, -, rfl⟩ := hv
    exact .inr ⟨g, _, f, rfl, hg, Nat.mul_le_mul_right 6 hn, hR⟩

/-- Calls that are gathered. -/
structure ClSt (B : Nat) (w0 wr : World) (v : Value) (l : List Cl) : Prop where
  own : wr.ownsRow B 39 6 v l.length (l.flatMap clC)
  bel : Below w0.heap.size w0 wr

theorem clSt_below {B : Nat} {w0 wr wr' : World} {v : Value} {l : List Cl} (h : ClSt B w0 wr v l) (hb : Below wr.heap.size wr wr') : ClSt B w0 wr' v l := ⟨ownsZ_below h.own hb, h.bel.trans (hb.mono h.bel.size)⟩
theorem clSt_step {B : Nat} {w0 wr wr' : World} {v v' : Value} {l : List Cl} {x : Cl} (h : ClSt B w0 wr v l) (hB : w0.heap.size ≤ B) (hg : wr.grownBy wr' v.ownBlock) (ho : wr'.ownsRow B 39 6 v' (l.length + 1) (l.flatMap clC ++ clC x)) : ClSt B w0 wr' v' (l ++ [x]) := by
  refine ⟨?_, h.bel.grown hg h.bel.size (fun b hb => ?_)⟩
  · have e1 : (l ++ [x]).length = l.length + 1 := by simp
    have e2 : (l ++ [x]).flatMap clC = l.flatMap clC ++ clC x := by simp
    rw [e1, e2]; exact ho
  · exact Nat.le_trans hB (h.own.lt b hb).1

end Go.Proofs.YthnkncmhbeeiaaaDoor
