/-
  Rooms of homes, the specification's side: rows of numbers that are written into. Made by mkhmr.py.
-/
import Derived.Test.YthnkncmhbeeiaaaDoorHmR
import Derived.Test.YthnkncmhbeeiaaaDoorHmS
import Derived.Deep.RegionHeld3
import Derived.WalkMore
namespace Go.Proofs.YthnkncmhbeeiaaaDoor
open Go.RowKit

theorem alHm (u : World) (o : Obj) : Below u.heap.size u (u.alloc o) := (Below.refl _ _).alloc (Nat.le_refl _) o
theorem stHm {w u v : World} (h1 : Below w.heap.size w u) (h2 : Below u.heap.size u v) : Below w.heap.size w v := h1.trans (h2.mono h1.size)

/-- Numbers in a row that may be written, with room behind them perhaps. -/
def IR (w : World) (R m : Nat) (l : List Int) : Prop := l.length ≤ m ∧ ∃ f, w.rowIs R 3 m f ∧ ∀ i, i < l.length → f i = .int .i64 (zA l i)
theorem IR.below {w w' : World} {R m : Nat} {l : List Int} (h : IR w R m l) (hb : Below w.heap.size w w') : IR w' R m l := by
  obtain ⟨h1, f, h2, h3⟩ := h
  exact ⟨h1, f, h2.of_block (hb.block R h2.lt), h3⟩
theorem IR.lt {w : World} {R m : Nat} {l : List Int} (h : IR w R m l) : R < w.heap.size := by obtain ⟨-, f, h2, -⟩ := h; exact h2.lt
theorem IR.cell {w : World} {R m : Nat} {l : List Int} (h : IR w R m l) {i : Nat} (hi : i < l.length) : w.cell? ⟨R, i, none⟩ = some (.int .i64 (zA l i)) := by
  obtain ⟨h1, f, h2, h3⟩ := h
  rw [← h3 i hi]; exact h2.cell (by omega)
theorem IR.frozen {w : World} {R m : Nat} {l : List Int} (h : IR w R m l) (i : Nat) : w.frozen? ⟨R, i, none⟩ = false := by obtain ⟨-, f, h2, -⟩ := h; exact h2.frozen i
theorem IR.set {w : World} {R m : Nat} {l : List Int} (h : IR w R m l) {i : Nat} (hi : i < l.length) (z : Int) : IR (w.setCell ⟨R, i, none⟩ (.int .i64 z)) R m (l.set i z) := by
  obtain ⟨h1, f, h2, h3⟩ := h
  refine ⟨by simpa using h1, _, h2.set i (.int .i64 z), fun j hj => ?_⟩
  rw [List.length_set] at hj
  by_cases e : j = i
  · subst e; simp [zA_set_same hi]
  · have e' : i ≠ j := fun h => e h.symm
    simp [e, zA_set_other e', h3 j hj]
theorem IR.other {w : World} {R m R' i : Nat} {l : List Int} (h : IR w R m l) (hn : R ≠ R') (v : Value) : IR (w.setCell ⟨R', i, none⟩ v) R m l := by
  obtain ⟨h1, f, h2, h3⟩ := h
  exact ⟨h1, f, h2.of_block (Below.heap_setCell _ ⟨R', _, none⟩ _ R (by simpa using hn)), h3⟩
theorem IR.ints {w : World} {R m : Nat} {l : List Int} (h : IR w R m l) : Ints w (some ⟨R, 0, none⟩) l := fun i z hi => by
  have hlt := (List.getElem?_eq_some_iff.1 hi).1
  refine ⟨R, 0, rfl, ?_⟩
  rw [Nat.zero_add, h.cell hlt]
  rw [zA_get hlt] at hi
  rw [Option.some.inj hi]
theorem IR.rowI {w : World} {R m B : Nat} {l : List Int} (h : IR w R m l) (hB : B ≤ R) : RowI w B (some ⟨R, 0, none⟩) l.length := by
  obtain ⟨h1, f, h2, -⟩ := h
  exact .inr ⟨R, m, f, rfl, hB, h1, h2⟩

/-- The rooms while they are laid, the first k of them. -/
def rmK (n k : Nat) (q gone : Int) : List Int := (List.range n).map fun h : Nat => if h < k ∧ ¬ (h : Int) = gone then q else 0
theorem rmK_len (n k : Nat) (q gone : Int) : (rmK n k q gone).length = n := by simp [rmK]
theorem rmK_get {n k : Nat} {q gone : Int} {i : Nat} (h : i < n) : zA (rmK n k q gone) i = if i < k ∧ ¬ (i : Int) = gone then q else 0 := by simp [zA, rmK, List.getD_eq_getElem?_getD, h]
theorem rmK_zero (n : Nat) (q gone : Int) : rmK n 0 q gone = List.replicate n 0 := ext_zA (by simp [rmK]) fun i hi => by
  rw [rmK_len] at hi
  rw [rmK_get hi, if_neg (by omega)]
  simp [zA, List.getD_eq_getElem?_getD, hi]
theorem rmK_all (n : Nat) (q gone : Int) : rmK n n q gone = rm0 n q gone := ext_zA (by simp [rmK, rm0]) fun i hi => by
  rw [rmK_len] at hi
  rw [rmK_get hi, rm0_get hi]
  by_cases e : (i : Int) = gone
  · rw [if_neg (fun c => c.2 e), if_pos e]
  · rw [if_pos ⟨hi, e⟩, if_neg e]
theorem rmK_skip {n k : Nat} {q gone : Int} (h : (k : Int) = gone) : rmK n (k + 1) q gone = rmK n k q gone := ext_zA (by simp [rmK]) fun i hi => by
  rw [rmK_len] at hi
  rw [rmK_get hi, rmK_get hi]
  by_cases e : i = k
  · subst e; rw [if_neg (fun c => c.2 h), if_neg (fun c => c.2 h)]
  · by_cases c : i < k ∧ ¬ (i : Int) = gone
    · rw [if_pos c, if_pos ⟨by omega, c.2⟩]
    · rw [if_neg c, if_neg (fun d => c ⟨by omega, d.2⟩)]
theorem rmK_put {n k : Nat} {q gone : Int} (hk : k < n) (h : ¬ (k : Int) = gone) : rmK n (k + 1) q gone = (rmK n k q gone).set k q := ext_zA (by simp [rmK]) fun i hi => by
  rw [rmK_len] at hi
  rw [rmK_get hi]
  by_cases e : i = k
  · subst e; rw [zA_set_same (by rw [rmK_len]; exact hi), if_pos ⟨by omega, h⟩]
  · rw [zA_set_other (fun c => e c.symm), rmK_get hi]
    by_cases c : i < k ∧ ¬ (i : Int) = gone
    · rw [if_pos c, if_pos ⟨by omega, c.2⟩]
    · rw [if_neg c, if_neg (fun d => c ⟨by omega, d.2⟩)]

theorem IR.of_row {w : World} {R m : Nat} {f : Nat → Value} {l : List Int} (h1 : l.length ≤ m) (h2 : w.rowIs R 3 m f) (hI : Ints w (some ⟨R, 0, none⟩) l) : IR w R m l :=
  ⟨h1, f, h2, fun i hi => by
    obtain ⟨b, o, e, hc⟩ := hI i _ (zA_get hi)
    simp only [Option.some.injEq, Addr.mk.injEq, and_true] at e
    obtain ⟨rfl, rfl⟩ := e
    rw [Nat.zero_add, h2.cell (by omega)] at hc
    exact Option.some.inj hc⟩

end Go.Proofs.YthnkncmhbeeiaaaDoor
