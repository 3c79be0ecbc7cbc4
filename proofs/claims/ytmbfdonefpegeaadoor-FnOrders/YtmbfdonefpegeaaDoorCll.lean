/-
  Lists of Call as a call reads them, and the contracts of the laws' helpers on them: szCall, szCallS, toCall, toCallS, eqCall, eqCallS. Made by mkbag.py.
-/
import Derived.Test.YtmbfdonefpegeaaDoorBagAid
namespace Go.Proofs.YtmbfdonefpegeaaDoor
open Go.RowKit

/-- One Call: what its fields read. -/
structure Cl where
  client : Int
  object : Int
  write : Bool
  value : Int
  beg : Int
  fin : Int
deriving DecidableEq

/-- At block K, from cell o on, one lies. -/
def ClAt (w : World) (K o : Nat) (c : Cl) : Prop :=
  w.cell? ⟨K, o, none⟩ = some (.int .i64 c.client) ∧ w.cell? ⟨K, o + 1, none⟩ = some (.int .i64 c.object) ∧ w.cell? ⟨K, o + 2, none⟩ = some (.bool c.write) ∧ w.cell? ⟨K, o + 3, none⟩ = some (.int .i64 c.value) ∧ w.cell? ⟨K, o + 4, none⟩ = some (.int .i64 c.beg) ∧ w.cell? ⟨K, o + 5, none⟩ = some (.int .i64 c.fin)

/-- The slice value at 'a' reads as these. -/
def Cls (w : World) (a : Option Addr) (l : List Cl) : Prop :=
  ∀ i c, l[i]? = some c → ∃ K o, a = some ⟨K, o, none⟩ ∧ ClAt w K (o + i * 6) c

theorem ClAt.below {w w' : World} {K o : Nat} {c : Cl} (h : ClAt w K o c) (hb : Below w.heap.size w w') : ClAt w' K o c := by
  obtain ⟨c0, c1, c2, c3, c4, c5⟩ := h
  have lt := lt_of_cell c0
  exact ⟨(hb.cell (p := ⟨K, o, none⟩) lt).trans c0, (hb.cell (p := ⟨K, o + 1, none⟩) lt).trans c1, (hb.cell (p := ⟨K, o + 2, none⟩) lt).trans c2, (hb.cell (p := ⟨K, o + 3, none⟩) lt).trans c3, (hb.cell (p := ⟨K, o + 4, none⟩) lt).trans c4, (hb.cell (p := ⟨K, o + 5, none⟩) lt).trans c5⟩

theorem Cls.below {w w' : World} {a : Option Addr} {l : List Cl} (h : Cls w a l) (hb : Below w.heap.size w w') : Cls w' a l := fun i c hi => by
  obtain ⟨K, o, e, hB⟩ := h i c hi
  exact ⟨K, o, e, hB.below hb⟩

theorem Cls.nil (w : World) (a : Option Addr) : Cls w a [] := fun i f hi => by simp at hi

theorem getCl {l : List Cl} {k : Nat} (h : k < l.length) : ∃ s, l[k]? = some s := ⟨_, List.getElem?_eq_getElem h⟩

theorem takeCl_snoc {l : List Cl} {k : Nat} {s : Cl} (h : l[k]? = some s) : l.take (k + 1) = l.take k ++ [s] := by
  rw [List.take_add_one, h]; rfl

theorem dropCl_cons {l : List Cl} {k : Nat} {b : Cl} (h : l[k]? = some b) : l.drop k = b :: l.drop (k + 1) := by
  obtain ⟨hlt, e⟩ := List.getElem?_eq_some_iff.1 h
  rw [List.drop_eq_getElem_cons hlt, e]

/-- What toCall answers. -/
def ClNew (w w' : World) (c : Cl) (r : Ending) : Prop :=
  r = .returned (.agg #[.int .i64 c.client, .int .i64 c.object, .bool c.write, .int .i64 c.value, .int .i64 c.beg, .int .i64 c.fin]) ∧ Below w.heap.size w w'

theorem Tryd.infoCl : (Tryd.prog.info? 53).map (fun i => (i.zero, i.size, i.bytes)) = some (some (.agg #[.int .i64 0, .int .i64 0, .bool false, .int .i64 0, .int .i64 0, .int .i64 0]), 6, 48) := by kernel_rfl

/-- The row at N holds the first k; their own lists lie behind N. -/
def ClTo (_w : World) (_N : Nat) (f : Nat → Value) (l : List Cl) (k : Nat) : Prop :=
  ∀ i c, i < k → l[i]? = some c → f (i * 6) = .int .i64 c.client ∧ f (i * 6 + 1) = .int .i64 c.object ∧ f (i * 6 + 2) = .bool c.write ∧ f (i * 6 + 3) = .int .i64 c.value ∧ f (i * 6 + 4) = .int .i64 c.beg ∧ f (i * 6 + 5) = .int .i64 c.fin

theorem ClTo.below {w w' : World} {N : Nat} {f : Nat → Value} {l : List Cl} {k : Nat} (h : ClTo w N f l k) (_hb : Below w.heap.size w w') : ClTo w' N f l k := fun i c hi hc => by
  obtain ⟨c0, c1, c2, c3, c4, c5⟩ := h i c hi hc
  exact ⟨c0, c1, c2, c3, c4, c5⟩

set_option maxHeartbeats 1000000 in
theorem ClTo_step {w : World} {N : Nat} {t : TypeId} {m : Nat} {f : Nat → Value} {l : List Cl} {k : Nat} {b : Cl} (hR : w.rowIs N t (m * 6) f) (hO : ClTo w N f l k) (hb : l[k]? = some b) :
    ∃ g, ((((((w.setCell ⟨N, k * 6, none⟩ (.int .i64 b.client)).setCell ⟨N, k * 6 + 1, none⟩ (.int .i64 b.object)).setCell ⟨N, k * 6 + 2, none⟩ (.bool b.write)).setCell ⟨N, k * 6 + 3, none⟩ (.int .i64 b.value)).setCell ⟨N, k * 6 + 4, none⟩ (.int .i64 b.beg)).setCell ⟨N, k * 6 + 5, none⟩ (.int .i64 b.fin)).rowIs N t (m * 6) g ∧ ClTo ((((((w.setCell ⟨N, k * 6, none⟩ (.int .i64 b.client)).setCell ⟨N, k * 6 + 1, none⟩ (.int .i64 b.object)).setCell ⟨N, k * 6 + 2, none⟩ (.bool b.write)).setCell ⟨N, k * 6 + 3, none⟩ (.int .i64 b.value)).setCell ⟨N, k * 6 + 4, none⟩ (.int .i64 b.beg)).setCell ⟨N, k * 6 + 5, none⟩ (.int .i64 b.fin)) N g l (k + 1) := by
  refine ⟨_, ((((((hR.set _ _).set _ _).set _ _).set _ _).set _ _).set _ _), fun i c hi hc => ?_⟩
  by_cases e : i = k
  · subst e
    obtain rfl : b = c := by rw [hb] at hc; simpa using hc
    refine ⟨?_, ?_, ?_, ?_, ?_, ?_⟩ <;> simp
  · obtain ⟨c0, c1, c2, c3, c4, c5⟩ := hO i c (by omega) hc
    refine ⟨?_, ?_, ?_, ?_, ?_, ?_⟩
    · rw [if_neg (by omega), if_neg (by omega), if_neg (by omega), if_neg (by omega), if_neg (by omega), if_neg (by omega)]; exact c0
    · rw [if_neg (by omega), if_neg (by omega), if_neg (by omega), if_neg (by omega), if_neg (by omega), if_neg (by omega)]; exact c1
    · rw [if_neg (by omega), if_neg (by omega), if_neg (by omega), if_neg (by omega), if_neg (by omega), if_neg (by omega)]; exact c2
    · rw [if_neg (by omega), if_neg (by omega), if_neg (by omega), if_neg (by omega), if_neg (by omega), if_neg (by omega)]; exact c3
    · rw [if_neg (by omega), if_neg (by omega), if_neg (by omega), if_neg (by omega), if_neg (by omega), if_neg (by omega)]; exact c4
    · rw [if_neg (by omega), if_neg (by omega), if_neg (by omega), if_neg (by omega), if_neg (by omega), if_neg (by omega)]; exact c5

theorem Cls.of_to {w : World} {N : Nat} {t : TypeId} {f : Nat → Value} {l : List Cl} (hR : w.rowIs N t (l.length * 6) f) (hO : ClTo w N f l l.length) : Cls w (some ⟨N, 0, none⟩) l := fun i c hi => by
  have hlt := (List.getElem?_eq_some_iff.1 hi).1
  obtain ⟨c0, c1, c2, c3, c4, c5⟩ := hO i c hlt hi
  refine ⟨N, 0, rfl, ?_, ?_, ?_, ?_, ?_, ?_⟩
  · rw [Nat.zero_add, hR.cell (by omega), c0]
  · rw [Nat.zero_add, hR.cell (by omega), c1]
  · rw [Nat.zero_add, hR.cell (by omega), c2]
  · rw [Nat.zero_add, hR.cell (by omega), c3]
  · rw [Nat.zero_add, hR.cell (by omega), c4]
  · rw [Nat.zero_add, hR.cell (by omega), c5]

/-- It reads so, and all of it lies in blocks from B on. -/
def ClsA (w : World) (B : Nat) (a : Option Addr) (l : List Cl) : Prop := ∀ w2 : World, (∀ b, B ≤ b → b < w.heap.size → w2.heap[b]? = w.heap[b]?) → Cls w2 a l

theorem ClsA.here {w : World} {B : Nat} {a : Option Addr} {l : List Cl} (h : ClsA w B a l) : Cls w a l := h w fun _ _ _ => rfl

theorem ClsA.below {w w' : World} {B : Nat} {a : Option Addr} {l : List Cl} (h : ClsA w B a l) (hb : Below w.heap.size w w') : ClsA w' B a l := fun w2 h2 =>
  h w2 fun b h1 hl => (h2 b h1 (by have := hb.size; omega)).trans (hb.block b hl)

theorem ClsA.mono {w : World} {B B' : Nat} {a : Option Addr} {l : List Cl} (h : ClsA w B a l) (hb : B' ≤ B) : ClsA w B' a l := fun w2 h2 =>
  h w2 fun b h1 hl => h2 b (by omega) hl

theorem ClsA.setR {w : World} {B N : Nat} {a : Option Addr} {l : List Cl} (h : ClsA w B a l) (hN : N < B) (o : Nat) (v : Value) : ClsA (w.setCell ⟨N, o, none⟩ v) B a l := fun w2 h2 =>
  h w2 fun b h1 hl => (h2 b h1 (by simpa using hl)).trans (Below.heap_setCell w ⟨N, o, none⟩ v b (by simp; omega))

theorem ClsA.of_to {w : World} {N : Nat} {t : TypeId} {f : Nat → Value} {l : List Cl} (hR : w.rowIs N t (l.length * 6) f) (hO : ClTo w N f l l.length) : ClsA w N (some ⟨N, 0, none⟩) l := fun w2 h2 => by
  have hO2 : ClTo w2 N f l l.length := fun i c hi hc => by
    obtain ⟨c0, c1, c2, c3, c4, c5⟩ := hO i c hi hc
    exact ⟨c0, c1, c2, c3, c4, c5⟩
  exact Cls.of_to (hR.of_block (h2 N (Nat.le_refl _) hR.lt)) hO2

/-- Room for n of them at 'a', in a block from B on that may be written. -/
def RowCl (w : World) (B : Nat) (a : Option Addr) (n : Nat) : Prop :=
  n = 0 ∨ ∃ g m f, a = some ⟨g, 0, none⟩ ∧ B ≤ g ∧ n * 6 ≤ m ∧ w.rowIs g 53 m f

theorem RowCl.of_block {w w' : World} {B : Nat} {a : Option Addr} {n : Nat} (h : RowCl w B a n) (hs : ∀ b, InI a n b → w'.heap[b]? = w.heap[b]?) : RowCl w' B a n := by
  rcases h with h | ⟨g, m, f, rfl, hg, hm, hR⟩
  · exact .inl h
  · by_cases h0 : n = 0
    · exact .inl h0
    · exact .inr ⟨g, m, f, rfl, hg, hm, hR.of_block (hs g ⟨by omega, 0, none, rfl⟩)⟩

theorem RowCl.lt {w : World} {B : Nat} {a : Option Addr} {n b : Nat} (h : RowCl w B a n) (hb : InI a n b) : B ≤ b ∧ b < w.heap.size := by
  obtain ⟨h0, o, s, e⟩ := hb
  rcases h with h | ⟨g, m, f, rfl, hg, hm, hR⟩
  · omega
  · simp only [Option.some.injEq, Addr.mk.injEq] at e
    have := hR.lt
    omega

theorem RowCl.below {w w' : World} {B : Nat} {a : Option Addr} {n : Nat} (h : RowCl w B a n) (hb : Below w.heap.size w w') : RowCl w' B a n :=
  h.of_block fun b hi => hb.block b (h.lt hi).2

theorem RowCl.mono {w : World} {B B' : Nat} {a : Option Addr} {n : Nat} (h : RowCl w B a n) (hb : B' ≤ B) : RowCl w B' a n := by
  rcases h with h | ⟨g, m, f, e, hg, r⟩
  · exact .inl h
  · exact .inr ⟨g, m, f, e, by omega, r⟩

theorem Cls.of_block {w w' : World} {a : Option Addr} {fs : List Cl} (h : Cls w a fs) (hs : ∀ b, InI a fs.length b → w'.heap[b]? = w.heap[b]?) : Cls w' a fs := fun i s hi => by
  obtain ⟨b, off, e, h0, h1, h2, h3, h4, h5⟩ := h i s hi
  have hlt := (List.getElem?_eq_some_iff.1 hi).1
  have hh := hs b ⟨by omega, off, none, e⟩
  exact ⟨b, off, e, (World.cell?_of_block (a := ⟨b, off + i * 6, none⟩) hh).trans h0, (World.cell?_of_block (a := ⟨b, off + i * 6 + 1, none⟩) hh).trans h1, (World.cell?_of_block (a := ⟨b, off + i * 6 + 2, none⟩) hh).trans h2, (World.cell?_of_block (a := ⟨b, off + i * 6 + 3, none⟩) hh).trans h3, (World.cell?_of_block (a := ⟨b, off + i * 6 + 4, none⟩) hh).trans h4, (World.cell?_of_block (a := ⟨b, off + i * 6 + 5, none⟩) hh).trans h5⟩

theorem Cls.lt {w : World} {a : Option Addr} {fs : List Cl} (h : Cls w a fs) : ∀ b, InI a fs.length b → b < w.heap.size := fun b ⟨h0, o, s, e⟩ => by
  obtain ⟨x, hx⟩ := getCl h0
  obtain ⟨k, off, e2, h1, -⟩ := h 0 x hx
  have := lt_of_cell h1
  rw [e] at e2
  simp only [Option.some.injEq, Addr.mk.injEq] at e2
  omega

theorem Cls.setR {w : World} {B N : Nat} {a : Option Addr} {zs : List Cl} (h : Cls w a zs) (r : RowCl w B a zs.length) (hN : N < B) (o : Nat) (v : Value) : Cls (w.setCell ⟨N, o, none⟩ v) a zs :=
  h.of_block fun b hb => Below.heap_setCell w ⟨N, o, none⟩ v b (by have := (r.lt hb).1; simp; omega)

theorem RowCl.setR {w : World} {B N n : Nat} {a : Option Addr} (r : RowCl w B a n) (hN : N < B) (o : Nat) (v : Value) : RowCl (w.setCell ⟨N, o, none⟩ v) B a n :=
  r.of_block fun b hb => Below.heap_setCell w ⟨N, o, none⟩ v b (by have := (r.lt hb).1; simp; omega)

end Go.Proofs.YtmbfdonefpegeaaDoor
