/-
  Good batches: what spec.GoodBatch and impl.GoodBatch answer, at every batch that can be read: the same Bool, 'Bt.good'.
-/
import Derived.Test.YtekjpbfmiebigaaDoorStrs
namespace Go.Proofs.YtekjpbfmiebigaaDoor
open Go.RowKit

def inB (n lo hi : Int) : Bool := decide (lo ≤ n ∧ n ≤ hi)

theorem inB_t {n lo hi : Int} : inB n lo hi = true ↔ lo ≤ n ∧ n ≤ hi := by simp [inB]
theorem inB_f {n lo hi : Int} : inB n lo hi = false ↔ ¬ (lo ≤ n ∧ n ≤ hi) := by simp only [inB, decide_eq_false_iff_not]

structure Bt where
  off : Int
  ep : Int
  pr : Int
  sq : Int
  recs : List ByteArray

def shortB (s : ByteArray) : Bool := decide (s.size ≤ 20)
def Bt.good (b : Bt) : Bool :=
  b.recs.all shortB && inB b.off 0 100000 && inB b.ep 0 1000 && inB b.pr 0 65535 && inB b.sq 0 65535 && inB b.recs.length 1 8

theorem l1In_any (n lo hi : Int) (w : World) : Calls Tryd.prog 17 #[.int .i64 n, .int .i64 lo, .int .i64 hi] w fun e w' => e = .returned (.bool (inB n lo hi)) ∧ w' = w := by
  by_cases h1 : lo ≤ n
  · by_cases h2 : n ≤ hi
    · go_enter Tryd.func17, Tryd.ntmps17
      go_wp2
      go_ret
      exact ⟨ret_bool (by rw [inB_t.2 ⟨h1, h2⟩]), rfl⟩
    · go_enter Tryd.func17, Tryd.ntmps17
      go_wp2
      go_ret
      exact ⟨ret_bool (by rw [inB_f.2 (by omega)]), rfl⟩
  · go_enter Tryd.func17, Tryd.ntmps17
    go_wp2
    go_ret
    exact ⟨ret_bool (by rw [inB_f.2 (by omega)]), rfl⟩

theorem within_any (n hi : Int) (w : World) : Calls Tryd.prog 76 #[.int .i64 n, .int .i64 hi] w fun e w' => e = .returned (.bool (inB n 0 hi)) ∧ w' = w := by
  by_cases h1 : 0 ≤ n
  · by_cases h2 : n ≤ hi
    · go_enter Tryd.func76, Tryd.ntmps76
      go_wp2
      go_ret
      exact ⟨ret_bool (by rw [inB_t.2 ⟨h1, h2⟩]), rfl⟩
    · go_enter Tryd.func76, Tryd.ntmps76
      go_wp2
      go_ret
      exact ⟨ret_bool (by rw [inB_f.2 (by omega)]), rfl⟩
  · go_enter Tryd.func76, Tryd.ntmps76
    go_wp2
    go_ret
    exact ⟨ret_bool (by rw [inB_f.2 (by omega)]), rfl⟩

theorem all_take_succ {ss : List ByteArray} {k : Nat} {s : ByteArray} (h : ss[k]? = some s) (ha : (ss.take k).all shortB = true) (hs : s.size ≤ 20) : (ss.take (k + 1)).all shortB = true := by
  rw [take_snoc h, List.all_append, ha]; simp [shortB, hs]

theorem all_false {ss : List ByteArray} {k : Nat} {s : ByteArray} (h : ss[k]? = some s) (hs : ¬ s.size ≤ 20) : ss.all shortB = false := by
  rw [List.all_eq_false]
  exact ⟨s, List.mem_of_getElem? h, by simp [shortB]; omega⟩

def goodR (ss : List ByteArray) : Bool := inB ss.length 1 8 && ss.all shortB

/-- A batch as a value: its records lie at 'a'. -/
abbrev Bt.val (b : Bt) (a : Option Addr) (c : Nat) : Value := .agg #[.int .i64 b.off, .int .i64 b.ep, .int .i64 b.pr, .int .i64 b.sq, .slice a b.recs.length c]

theorem goodR_f {b : Bt} (h : goodR b.recs = false) : b.good = false := by
  simp only [goodR, Bt.good, Bool.and_eq_false_iff] at *
  rcases h with h | h <;> simp [h]

end Go.Proofs.YtekjpbfmiebigaaDoor
