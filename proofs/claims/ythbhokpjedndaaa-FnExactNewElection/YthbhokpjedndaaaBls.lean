/-
  Slices of bools as a call reads them, and what the laws' helpers on them do: the contracts of toBoolS, eqBoolS, markBoolS, heldBoolS, szBoolS. Made out of Ints by mkbls.py.
-/
import Derived.Test.YthbhokpjedndaaaInts
namespace Go.Proofs.Ythbhokpjedndaaa
open Go.RowKit

/-- The slice value at 'a' reads as these numbers. -/
def Bools (w : World) (a : Option Addr) (zs : List Bool) : Prop :=
  ∀ (i : Nat) (z : Bool), zs[i]? = some z → ∃ b off, a = some ⟨b, off, none⟩ ∧ w.cell? ⟨b, off + i, none⟩ = some (.bool z)

theorem Bools.below {w w' : World} {a : Option Addr} {zs : List Bool} (h : Bools w a zs) (hb : Below w.heap.size w w') : Bools w' a zs := fun i z hi => by
  obtain ⟨b, off, e, hc⟩ := h i z hi
  exact ⟨b, off, e, (hb.cell (p := ⟨b, off + i, none⟩) (lt_of_cell hc)).trans hc⟩

theorem Bools.nil (w : World) (a : Option Addr) : Bools w a [] := fun i z hi => by simp at hi

theorem getBool {zs : List Bool} {k : Nat} (h : k < zs.length) : ∃ z, zs[k]? = some z := ⟨_, List.getElem?_eq_getElem h⟩

theorem takeBool_snoc {zs : List Bool} {k : Nat} {z : Bool} (h : zs[k]? = some z) : zs.take (k + 1) = zs.take k ++ [z] := by
  rw [List.take_add_one, h]; rfl

/-- Room for n numbers at 'a', in a block from B on that may be written. -/
def RowO (w : World) (B : Nat) (a : Option Addr) (n : Nat) : Prop :=
  n = 0 ∨ ∃ g m f, a = some ⟨g, 0, none⟩ ∧ B ≤ g ∧ n ≤ m ∧ w.rowIs g 4 m f

theorem RowO.of_block {w w' : World} {B : Nat} {a : Option Addr} {n : Nat} (h : RowO w B a n) (hs : ∀ b, InI a n b → w'.heap[b]? = w.heap[b]?) : RowO w' B a n := by
  rcases h with h | ⟨g, m, f, rfl, hg, hm, hR⟩
  · exact .inl h
  · by_cases h0 : n = 0
    · exact .inl h0
    · exact .inr ⟨g, m, f, rfl, hg, hm, hR.of_block (hs g ⟨by omega, 0, none, rfl⟩)⟩

theorem RowO.lt {w : World} {B : Nat} {a : Option Addr} {n b : Nat} (h : RowO w B a n) (hb : InI a n b) : B ≤ b ∧ b < w.heap.size := by
  obtain ⟨h0, o, s, e⟩ := hb
  rcases h with h | ⟨g, m, f, rfl, hg, hm, hR⟩
  · omega
  · simp only [Option.some.injEq, Addr.mk.injEq] at e
    have := hR.lt
    omega

theorem RowO.below {w w' : World} {B : Nat} {a : Option Addr} {n : Nat} (h : RowO w B a n) (hb : Below w.heap.size w w') : RowO w' B a n :=
  h.of_block fun b hi => hb.block b (h.lt hi).2

theorem RowO.mono {w : World} {B B' : Nat} {a : Option Addr} {n : Nat} (h : RowO w B a n) (hb : B' ≤ B) : RowO w B' a n := by
  rcases h with h | ⟨g, m, f, e, hg, r⟩
  · exact .inl h
  · exact .inr ⟨g, m, f, e, by omega, r⟩

theorem Bools.of_block {w w' : World} {a : Option Addr} {zs : List Bool} (h : Bools w a zs) (hs : ∀ b, InI a zs.length b → w'.heap[b]? = w.heap[b]?) : Bools w' a zs := fun i z hi => by
  obtain ⟨b, off, e, hc⟩ := h i z hi
  have hlt := (List.getElem?_eq_some_iff.1 hi).1
  exact ⟨b, off, e, (World.cell?_of_block (a := ⟨b, off + i, none⟩) (hs b ⟨by omega, off, none, e⟩)).trans hc⟩

theorem Bools.lt {w : World} {a : Option Addr} {zs : List Bool} (h : Bools w a zs) : ∀ b, InI a zs.length b → b < w.heap.size := fun b ⟨h0, o, s, e⟩ => by
  obtain ⟨z, hz⟩ := getBool (zs := zs) h0
  obtain ⟨k, o', e', hc⟩ := h 0 z hz
  rw [e'] at e
  simp only [Option.some.injEq, Addr.mk.injEq] at e
  have := lt_of_cell hc
  omega

theorem Bools.of_row {w : World} {b m : Nat} {t : TypeId} {f : Nat → Value} {zs : List Bool} (h : w.rowIs b t m f) (hm : zs.length ≤ m) (hf : ∀ (i : Nat) (z : Bool), zs[i]? = some z → f i = .bool z) : Bools w (some ⟨b, 0, none⟩) zs := fun i z hi => by
  have hlt := (List.getElem?_eq_some_iff.1 hi).1
  refine ⟨b, 0, rfl, ?_⟩
  rw [Nat.zero_add, h.cell (by omega), hf i z hi]

theorem Try.infoBool : (Try.prog.info? 4).map (fun i => (i.zero, i.size, i.bytes)) = some (some (.bool false), 1, 1) := by kernel_rfl

def upToO (zs : List Bool) (k : Nat) (j : Nat) : Value := .bool (if j < k then zs.getD j false else false)

theorem upToO_step {w : World} {b : Nat} {t : TypeId} {n : Nat} {zs : List Bool} {k : Nat} {z : Bool} (h : w.rowIs b t n (upToO zs k)) (hs : zs[k]? = some z) : (w.setCell ⟨b, k, none⟩ (.bool z)).rowIs b t n (upToO zs (k + 1)) := by
  refine (h.set k (.bool z)).congr fun j _ => ?_
  by_cases e : j = k
  · subst e; simp [upToO, hs]
  · have : (j < k + 1) = (j < k) := by simp only [eq_iff_iff]; omega
    simp [upToO, e, this]

theorem upToO_full {zs : List Bool} {i : Nat} {z : Bool} (h : zs[i]? = some z) : upToO zs zs.length i = .bool z := by
  have hlt := (List.getElem?_eq_some_iff.1 h).1
  unfold upToO
  rw [if_pos hlt, List.getD_eq_getElem?_getD, h]; rfl

/-- n marks from k on. -/
def mkO (k : Nat) : Bool := ((k : Int) % 3 == 0)

theorem mkO_add (k j : Nat) : (((k : Int) + (j : Int)) % 3 == 0) = mkO (k + j) := by unfold mkO; rw [Int.natCast_add]

def markO (k n : Nat) : List Bool := (List.range n).map fun i => mkO (k + i)
theorem markO_length (k n : Nat) : (markO k n).length = n := by simp [markO]
theorem markO_get {k n i : Nat} (h : i < n) : (markO k n)[i]? = some (mkO (k + i)) := by simp [markO, h]

def szN (n : Nat) (left : Int) : Int := if left - n < 0 then -1 else left - n
theorem szN_range (n : Nat) {left : Int} (h0 : 0 ≤ left) : -1 ≤ szN n left ∧ szN n left ≤ left := by
  unfold szN; split <;> omega
theorem szN_bound {n : Nat} {left : Int} (h : 0 ≤ szN n left) : (n : Int) ≤ left := by
  unfold szN at h; split at h <;> omega

theorem szIntN_any (a : Option Addr) (c n : Nat) (left : Int) (w : World) (hl : n ≤ maxLen) (h0 : 0 ≤ left) (h1 : left ≤ 1048576) :
    Calls Try.prog 28 #[.slice a n c, .int .i64 left] w fun e w' => e = .returned (.int .i64 (szN n left)) ∧ w' = w := by
  unfold maxLen at hl
  by_cases hn : left - n < 0
  · go_enter Try.func28, Try.ntmps28
    go_wp2
    go_ret
    exact ⟨ret_int (by unfold szN; rw [if_pos hn]), rfl⟩
  · go_enter Try.func28, Try.ntmps28
    go_wp2
    go_ret
    exact ⟨ret_int (by unfold szN; rw [if_neg (by omega)]), rfl⟩

end Go.Proofs.Ythbhokpjedndaaa
