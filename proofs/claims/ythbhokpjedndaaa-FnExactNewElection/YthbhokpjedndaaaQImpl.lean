/-
  Sets of members, the program's side: the contracts of impl.only, joined, meets, hasAll, setFrom.
-/
import Derived.Test.YthbhokpjedndaaaIss
import Derived.Laws.BitsAllLaws
import Derived.Deep.AppendLies
import Derived.Deep.RegionHeld3
namespace Go.Proofs.Ythbhokpjedndaaa
open Go.RowKit

/-- A set as a value. -/
abbrev setV (n : Nat) : Value := .agg #[.int .u64 (n : Int)]

theorem b_or {a b : Nat} (ha : a < 128) (hb : b < 128) : bits .or .u64 (a : Int) (b : Int) = ((a ||| b : Nat) : Int) := u64_or_nat a b (by omega) (by omega)
theorem b_and {a b : Nat} (ha : a < 128) (hb : b < 128) : bits .and .u64 (a : Int) (b : Int) = ((a &&& b : Nat) : Int) := u64_and_nat a b (by omega) (by omega)
theorem wo_sub : ∀ a, a < 128 → ∀ b, b < 128 → a &&& (18446744073709551615 - b) = wo a b := by decide +kernel
theorem b_wo {a b : Nat} (ha : a < 128) (hb : b < 128) : bits .andNot .u64 (a : Int) (b : Int) = ((wo a b : Nat) : Int) := by
  rw [u64_andNot_nat a b (by omega) (by omega), wo_sub a ha b hb]
theorem or_lt {a b : Nat} (ha : a < 128) (hb : b < 128) : a ||| b < 128 := Nat.or_lt_two_pow (n := 7) ha hb

/-- The slice value at 'a' reads as these sets. -/
def Sets (w : World) (a : Option Addr) (ns : List Nat) : Prop :=
  ∀ (i n : Nat), ns[i]? = some n → n < 128 ∧ ∃ b off, a = some ⟨b, off, none⟩ ∧ w.cell? ⟨b, off + i, none⟩ = some (.int .u64 (n : Int))

theorem Sets.below {w w' : World} {a : Option Addr} {ns : List Nat} (h : Sets w a ns) (hb : Below w.heap.size w w') : Sets w' a ns := fun i z hi => by
  obtain ⟨hn, b, off, e, hc⟩ := h i z hi
  exact ⟨hn, b, off, e, (hb.cell (p := ⟨b, off + i, none⟩) (lt_of_cell hc)).trans hc⟩

theorem getN {ns : List Nat} {k : Nat} (h : k < ns.length) : ∃ z, ns[k]? = some z := ⟨_, List.getElem?_eq_getElem h⟩

theorem rowIs_of_alloc6 (w : World) (c : Array Value) (t : TypeId) : (w.alloc (.cells c t)).rowIs w.heap.size t c.size (fun j => c.getD j undef) :=
  World.rowIs_alloc w c t _ (fun i hi => by simp [hi])

def orTo (ns : List Nat) : Nat → Nat
  | 0 => 0
  | k + 1 => orTo ns k ||| ns.getD k 0

theorem orTo_lt {ns : List Nat} (h : ∀ n ∈ ns, n < 128) : ∀ k, orTo ns k < 128
  | 0 => by simp [orTo]
  | k + 1 => by
    refine or_lt (orTo_lt h k) ?_
    by_cases hk : k < ns.length
    · rw [List.getD_eq_getElem?_getD, List.getElem?_eq_getElem hk]; exact h _ (List.getElem_mem hk)
    · rw [List.getD_eq_getElem?_getD, List.getElem?_eq_none (by omega)]; simp

theorem orTo_two (x y : Nat) : orTo [x, y] 2 = x ||| y := by simp [orTo]

theorem keep_al {w0 w1 : World} {o : Obj} (hB : Below (w1.alloc o).heap.size (w1.alloc o) w0) {b off : Nat} (h : b < w1.heap.size) : w0.cell? ⟨b, off, none⟩ = w1.cell? ⟨b, off, none⟩ ∧ w0.frozen? ⟨b, off, none⟩ = w1.frozen? ⟨b, off, none⟩ := by
  have h1 : Below w1.heap.size w1 (w1.alloc o) := (Below.refl _ _).alloc (Nat.le_refl _) _
  have h2 : b < (w1.alloc o).heap.size := by simp; omega
  exact ⟨(hB.cell (p := ⟨b, off, none⟩) h2).trans (h1.cell (p := ⟨b, off, none⟩) h), (hB.frozen (p := ⟨b, off, none⟩) h2).trans (h1.frozen (p := ⟨b, off, none⟩) h)⟩

theorem keep_dr {w0 w1 : World} (hB : Below w1.drew.heap.size w1.drew w0) {b off : Nat} (h : b < w1.heap.size) : w0.cell? ⟨b, off, none⟩ = w1.cell? ⟨b, off, none⟩ ∧ w0.frozen? ⟨b, off, none⟩ = w1.frozen? ⟨b, off, none⟩ :=
  ⟨hB.cell (p := ⟨b, off, none⟩) h, hB.frozen (p := ⟨b, off, none⟩) h⟩

theorem Below.step_dr {W a b : World} (h : Below W.heap.size W a) (k : Below a.drew.heap.size a.drew b) : Below W.heap.size W b := h.drew.trans (k.mono h.size)
theorem Below.step_al {W a b : World} {o : Obj} (h : Below W.heap.size W a) (k : Below (a.alloc o).heap.size (a.alloc o) b) : Below W.heap.size W b :=
  (h.alloc h.size o).trans (k.mono (by have := h.size; simp; omega))
theorem row_dr {a b : World} {g n : Nat} {t : TypeId} {f : Nat → Value} (h : a.rowIs g t n f) (k : Below a.drew.heap.size a.drew b) : b.rowIs g t n f := h.of_block (k.block g h.lt)
theorem row_al {a b : World} {g n : Nat} {t : TypeId} {f : Nat → Value} {o : Obj} (h : a.rowIs g t n f) (k : Below (a.alloc o).heap.size (a.alloc o) b) : b.rowIs g t n f := (h.alloc o).of_block (k.block g (h.alloc o).lt)

def setR (zs : List Int) (many : Int) : Nat := if riseB zs many then msk zs else 0
theorem setR_f {zs : List Int} {many : Int} (h : riseB zs many = false) : setR zs many = 0 := by unfold setR; rw [h]; rfl
theorem setR_t {zs : List Int} {many : Int} (h : riseB zs many = true) : setR zs many = msk zs := by unfold setR; rw [h]; rfl

theorem sets_two {w : World} {b x y : Nat} (hx : x < 128) (hy : y < 128) (h0 : w.cell? ⟨b, 0, none⟩ = some (.int .u64 (x : Int))) (h1 : w.cell? ⟨b, 1, none⟩ = some (.int .u64 (y : Int))) : Sets w (some ⟨b, 0, none⟩) [x, y] := fun i n hi => by
  match i with
  | 0 => simp at hi; subst hi; exact ⟨hx, b, 0, rfl, h0⟩
  | 1 => simp at hi; subst hi; exact ⟨hy, b, 0, rfl, h1⟩
  | i + 2 => simp at hi

end Go.Proofs.Ythbhokpjedndaaa
