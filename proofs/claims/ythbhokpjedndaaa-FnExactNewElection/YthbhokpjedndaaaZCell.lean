/-
  Numbers as cells, and rows of numbers that a call owns.
-/
import Derived.Test.YthbhokpjedndaaaInts
import Derived.Deep.AppendLies
namespace Go.Proofs.Ythbhokpjedndaaa
open Go.RowKit

theorem ownsZ_below {w w' : World} {B : Nat} {e : TypeId} {size : Nat} {v : Value} {n : Nat} {xs : List Value} (h : w.ownsRow B e size v n xs) (hb : Below w.heap.size w w') : w'.ownsRow B e size v n xs := by
  obtain ⟨h1, h2 | ⟨g, cap, cur, hv, hg, hh, r⟩⟩ := h
  · exact ⟨h1, .inl h2⟩
  · have hlt := (Array.getElem?_eq_some_iff.1 hh).1
    exact ⟨h1, .inr ⟨g, cap, cur, hv, hg, (hb.block g hlt).trans hh, r⟩⟩

theorem ownsZ_form {w : World} {B : Nat} {e : TypeId} {size : Nat} {v : Value} {n : Nat} {xs : List Value} (h : w.ownsRow B e size v n xs) : ∃ a cap, v = .slice a n cap := by
  obtain ⟨-, ⟨rfl, rfl⟩ | ⟨g, cap, cur, rfl, -⟩⟩ := h
  · exact ⟨none, 0, rfl⟩
  · exact ⟨_, cap, rfl⟩

theorem row_of_ownsZ {w : World} {B : Nat} {t : TypeId} {size : Nat} {v : Value} {n : Nat} {xs : List Value} (h : w.ownsRow B t size v n xs) (hn : 0 < n) :
    ∃ g cap f, v = .slice (some ⟨g, 0, none⟩) n cap ∧ B ≤ g ∧ n ≤ cap ∧ w.rowIs g t (cap * size) f ∧ ∀ i, i < n * size → xs[i]? = some (f i) := by
  obtain ⟨h1, ⟨hv, h0⟩ | ⟨g, cap, cur, hv, hg, hh, hnc, hcap, hcs, ht⟩⟩ := h
  · omega
  · have hle : n * size ≤ cap * size := Nat.mul_le_mul_right _ hnc
    refine ⟨g, cap, fun j => cur.getD j undef, hv, hg, hnc, ⟨cur, hh, hcs, fun i hi => by simp [hcs, hi]⟩, fun i hi => ?_⟩
    rw [← ht, List.getElem?_take_of_lt hi]
    have : i < cur.size := by omega
    simp [this]

def zCells (zs : List Int) : List Value := zs.map fun z => Value.int .i64 z
theorem zCells_len (zs : List Int) : (zCells zs).length = zs.length * 1 := by simp [zCells]
theorem zCells_app (xs ys : List Int) : zCells (xs ++ ys) = zCells xs ++ zCells ys := by simp [zCells]
theorem zCells_get {zs : List Int} {i : Nat} {z : Int} (h : zs[i]? = some z) : (zCells zs)[i]? = some (.int .i64 z) := by simp [zCells, h]
theorem zCells_one (zs : List Int) : ∀ u ∈ zCells zs, u.oneCell' = true := fun u hu => by
  obtain ⟨_, _, rfl⟩ := List.mem_map.1 hu
  rfl

theorem ints_of_owns {w : World} {B : Nat} {a : Option Addr} {c : Nat} {zs : List Int} (h : w.ownsRow B 3 1 (.slice a zs.length c) zs.length (zCells zs)) : Ints w a zs ∧ RowI w B a zs.length := by
  by_cases h0 : zs.length = 0
  · obtain rfl : zs = [] := List.eq_nil_of_length_eq_zero h0
    exact ⟨Ints.nil _ _, .inl rfl⟩
  · obtain ⟨g, cap, f, hv, hg, hn, hR, hx⟩ := row_of_ownsZ h (by omega)
    simp only [Value.slice.injEq] at hv
    obtain ⟨rfl, -, rfl⟩ := hv
    rw [Nat.mul_one] at hR
    refine ⟨fun i b hi => ?_, .inr ⟨g, _, f, rfl, hg, hn, hR⟩⟩
    have hlt := (List.getElem?_eq_some_iff.1 hi).1
    have g0 := zCells_get hi
    rw [hx _ (by omega)] at g0
    refine ⟨g, 0, rfl, ?_⟩
    rw [Nat.zero_add, hR.cell (by omega)]; exact g0

/-- The cells of a piece of a list that is read. -/
theorem news_take {w : World} {g n : Nat} {zs : List Int} (h : Ints w (some ⟨g, 0, none⟩) zs) : ∀ j u, (zCells (zs.take n))[j]? = some u → w.cell? ((⟨g, 0, none⟩ : Addr).add j) = some u := fun j u hu => by
  simp only [zCells, List.getElem?_map, Option.map_eq_some_iff] at hu
  obtain ⟨z, hz, rfl⟩ := hu
  have hlt := (List.getElem?_eq_some_iff.1 hz).1
  rw [List.length_take] at hlt
  rw [List.getElem?_take_of_lt (by omega)] at hz
  obtain ⟨b, o, e, hc⟩ := h j z hz
  simp only [Option.some.injEq, Addr.mk.injEq, and_true] at e
  obtain ⟨rfl, rfl⟩ := e
  rw [Go.WideShapes.add_plain]; exact hc

theorem news_drop {w : World} {g n : Nat} {zs : List Int} (h : Ints w (some ⟨g, 0, none⟩) zs) : ∀ j u, (zCells (zs.drop n))[j]? = some u → w.cell? ((⟨g, n, none⟩ : Addr).add j) = some u := fun j u hu => by
  simp only [zCells, List.getElem?_map, Option.map_eq_some_iff, List.getElem?_drop] at hu
  obtain ⟨z, hz, rfl⟩ := hu
  obtain ⟨b, o, e, hc⟩ := h (n + j) z hz
  simp only [Option.some.injEq, Addr.mk.injEq, and_true] at e
  obtain ⟨rfl, rfl⟩ := e
  rw [Go.WideShapes.add_plain, ← Nat.zero_add n, Nat.add_assoc]; exact hc

end Go.Proofs.Ythbhokpjedndaaa
