/-
  Lists of Event as a call reads them, and the contracts of the laws' helpers on them: szEventS, toEvent, toEventS, eqEvent, eqEventS, markEventS.
-/
import Derived.Test.YtiabgomeogcpnaaDoorEp
import Derived.Deep.RegionWith
namespace Go.Proofs.YtiabgomeogcpnaaDoor
open Go.RowKit

/-- One Event: its numbers. -/
structure Ev where
  pr : Int
  kd : Int
  ms : Int
deriving DecidableEq

/-- At block k, from cell o on, one lies. -/
def EvAt (w : World) (k o : Nat) (f : Ev) : Prop :=
  w.cell? ⟨k, o, none⟩ = some (.int .i64 f.pr) ∧ w.cell? ⟨k, o + 1, none⟩ = some (.int .i64 f.kd) ∧ w.cell? ⟨k, o + 2, none⟩ = some (.int .i64 f.ms)

/-- The slice value at 'a' reads as these. -/
def Evs (w : World) (a : Option Addr) (fs : List Ev) : Prop :=
  ∀ i f, fs[i]? = some f → ∃ k o, a = some ⟨k, o, none⟩ ∧ EvAt w k (o + i * 3) f

theorem EvAt.below {w w' : World} {k o : Nat} {f : Ev} (h : EvAt w k o f) (hb : Below w.heap.size w w') : EvAt w' k o f := by
  obtain ⟨h0, h1, h2⟩ := h
  have lt := lt_of_cell h0
  exact ⟨(hb.cell (p := ⟨k, o, none⟩) lt).trans h0, (hb.cell (p := ⟨k, o + 1, none⟩) lt).trans h1, (hb.cell (p := ⟨k, o + 2, none⟩) lt).trans h2⟩

theorem Evs.below {w w' : World} {a : Option Addr} {fs : List Ev} (h : Evs w a fs) (hb : Below w.heap.size w w') : Evs w' a fs := fun i f hi => by
  obtain ⟨k, o, e, hB⟩ := h i f hi
  exact ⟨k, o, e, hB.below hb⟩

theorem Evs.nil (w : World) (a : Option Addr) : Evs w a [] := fun i f hi => by simp at hi

theorem getEv {fs : List Ev} {k : Nat} (h : k < fs.length) : ∃ s, fs[k]? = some s := ⟨_, List.getElem?_eq_getElem h⟩

theorem takeEv_snoc {ss : List Ev} {k : Nat} {s : Ev} (h : ss[k]? = some s) : ss.take (k + 1) = ss.take k ++ [s] := by
  rw [List.take_add_one, h]; rfl

def szE (n : Nat) : Int := if (1048576 : Int) - n < 0 then -1 else 1048576 - n
theorem szE_neg {n : Nat} (h : (1048576 : Int) < n) : szE n = -1 := by unfold szE; rw [if_pos (by omega)]
theorem szE_pos {n : Nat} (h : n ≤ 1048576) : szE n = 1048576 - n := by unfold szE; rw [if_neg (by omega)]

theorem Tryd.infoEv : (Tryd.prog.info? 58).map (fun i => (i.zero, i.size, i.bytes)) = some (some (.agg #[.int .i64 0, .int .i64 0, .int .i64 0]), 3, 24) := by kernel_rfl

/-- make([]T, n), T of several cells. -/
theorem run_make_manyV {P : Program} (t e : TypeId) (z : Value) (size bytes : Nat) (ht : P.underlying t = some (.slice e)) (hinfo : (P.info? e).map (fun i => (i.zero, i.size, i.bytes)) = some (some z, size, bytes))
    (kl kc : IntKind) (n : Nat) (hbytes : bytes * n ≤ 281474976710656) (h63 : n ≤ 9223372036854775807) (w : World) :
    (Instr.makeSlice t (.int kl (n : Int)) (.int kc (n : Int))).run P w = .ok (.slice (some ⟨w.heap.size, 0, none⟩) n n) (w.alloc (.cells (madeCells z.cells (n * size)) e)) := by
  obtain ⟨i, hi, hzz⟩ := Option.map_eq_some_iff.1 hinfo
  simp only [Prod.mk.injEq] at hzz
  obtain ⟨hz, rfl, rfl⟩ := hzz
  have hb' : (i.bytes : Int) * (n : Int) ≤ 281474976710656 := by
    have h : ((i.bytes * n : Nat) : Int) ≤ 281474976710656 := by omega
    rwa [Int.natCast_mul] at h
  have hr := run_make (P := P) w t e i z ht hi hz kl kc n n (by omega) (Int.le_refl _) hb' (by omega)
  simp only [Int.toNat_natCast] at hr
  exact hr

theorem rowIs_of_allocV (w : World) (c : Array Value) (t : TypeId) : (w.alloc (.cells c t)).rowIs w.heap.size t c.size (fun j => c.getD j undef) :=
  World.rowIs_alloc w c t _ (fun i hi => by simp [hi])

/-- The row's first k are these. -/
def EvTo (f : Nat → Value) (fs : List Ev) (k : Nat) : Prop :=
  ∀ i b, i < k → fs[i]? = some b → f (i * 3) = .int .i64 b.pr ∧ f (i * 3 + 1) = .int .i64 b.kd ∧ f (i * 3 + 2) = .int .i64 b.ms

theorem EvTo_step {w : World} {N m : Nat} {t : TypeId} {f : Nat → Value} {fs : List Ev} {k : Nat} {b : Ev} (hR : w.rowIs N t m f) (hO : EvTo f fs k) (hb : fs[k]? = some b) :
    ∃ g, (((w.setCell ⟨N, k * 3, none⟩ (.int .i64 b.pr)).setCell ⟨N, k * 3 + 1, none⟩ (.int .i64 b.kd)).setCell ⟨N, k * 3 + 2, none⟩ (.int .i64 b.ms)).rowIs N t m g ∧ EvTo g fs (k + 1) := by
  refine ⟨_, (((hR.set _ _).set _ _).set _ _), fun i c hi hc => ?_⟩
  by_cases e : i = k
  · subst e
    obtain rfl : b = c := by rw [hb] at hc; simpa using hc
    refine ⟨?_, ?_, ?_⟩ <;> simp
  · obtain ⟨h0, h1, h2⟩ := hO i c (by omega) hc
    refine ⟨?_, ?_, ?_⟩
    · rw [if_neg (by omega), if_neg (by omega), if_neg (by omega)]; exact h0
    · rw [if_neg (by omega), if_neg (by omega), if_neg (by omega)]; exact h1
    · rw [if_neg (by omega), if_neg (by omega), if_neg (by omega)]; exact h2

theorem Evs.of_row {w : World} {N m : Nat} {t : TypeId} {f : Nat → Value} {fs : List Ev} (hR : w.rowIs N t m f) (hm : fs.length * 3 ≤ m) (hO : EvTo f fs fs.length) : Evs w (some ⟨N, 0, none⟩) fs := fun i b hi => by
  have hlt := (List.getElem?_eq_some_iff.1 hi).1
  obtain ⟨h0, h1, h2⟩ := hO i b hlt hi
  refine ⟨N, 0, rfl, ?_, ?_, ?_⟩
  · rw [Nat.zero_add, hR.cell (by omega), h0]
  · rw [Nat.zero_add, hR.cell (by omega), h1]
  · rw [Nat.zero_add, hR.cell (by omega), h2]

/-- Room for n of them at 'a', in a block from B on that may be written. -/
def RowV (w : World) (B : Nat) (a : Option Addr) (n : Nat) : Prop :=
  n = 0 ∨ ∃ g m f, a = some ⟨g, 0, none⟩ ∧ B ≤ g ∧ n * 3 ≤ m ∧ w.rowIs g 58 m f

theorem RowV.of_block {w w' : World} {B : Nat} {a : Option Addr} {n : Nat} (h : RowV w B a n) (hs : ∀ b, InI a n b → w'.heap[b]? = w.heap[b]?) : RowV w' B a n := by
  rcases h with h | ⟨g, m, f, rfl, hg, hm, hR⟩
  · exact .inl h
  · by_cases h0 : n = 0
    · exact .inl h0
    · exact .inr ⟨g, m, f, rfl, hg, hm, hR.of_block (hs g ⟨by omega, 0, none, rfl⟩)⟩

theorem RowV.lt {w : World} {B : Nat} {a : Option Addr} {n b : Nat} (h : RowV w B a n) (hb : InI a n b) : B ≤ b ∧ b < w.heap.size := by
  obtain ⟨h0, o, s, e⟩ := hb
  rcases h with h | ⟨g, m, f, rfl, hg, hm, hR⟩
  · omega
  · simp only [Option.some.injEq, Addr.mk.injEq] at e
    have := hR.lt
    omega

theorem RowV.below {w w' : World} {B : Nat} {a : Option Addr} {n : Nat} (h : RowV w B a n) (hb : Below w.heap.size w w') : RowV w' B a n :=
  h.of_block fun b hi => hb.block b (h.lt hi).2

theorem RowV.mono {w : World} {B B' : Nat} {a : Option Addr} {n : Nat} (h : RowV w B a n) (hb : B' ≤ B) : RowV w B' a n := by
  rcases h with h | ⟨g, m, f, e, hg, r⟩
  · exact .inl h
  · exact .inr ⟨g, m, f, e, by omega, r⟩

theorem Evs.of_block {w w' : World} {a : Option Addr} {fs : List Ev} (h : Evs w a fs) (hs : ∀ b, InI a fs.length b → w'.heap[b]? = w.heap[b]?) : Evs w' a fs := fun i s hi => by
  obtain ⟨b, off, e, h0, h1, h2⟩ := h i s hi
  have hlt := (List.getElem?_eq_some_iff.1 hi).1
  have hh := hs b ⟨by omega, off, none, e⟩
  exact ⟨b, off, e, (World.cell?_of_block (a := ⟨b, off + i * 3, none⟩) hh).trans h0, (World.cell?_of_block (a := ⟨b, off + i * 3 + 1, none⟩) hh).trans h1, (World.cell?_of_block (a := ⟨b, off + i * 3 + 2, none⟩) hh).trans h2⟩

theorem Evs.lt {w : World} {a : Option Addr} {fs : List Ev} (h : Evs w a fs) : ∀ b, InI a fs.length b → b < w.heap.size := fun b ⟨h0, o, s, e⟩ => by
  obtain ⟨z, hz⟩ := getEv (fs := fs) h0
  obtain ⟨k, o', e', hc, -⟩ := h 0 z hz
  rw [e'] at e
  simp only [Option.some.injEq, Addr.mk.injEq] at e
  have := lt_of_cell hc
  omega

/-- n marked ones from k on. -/
def markEv (k n : Nat) : List Ev := (List.range n).map fun i => ⟨((k + 3 * i : Nat) : Int), ((k + 3 * i + 1 : Nat) : Int), ((k + 3 * i + 2 : Nat) : Int)⟩

theorem markEv_length (k n : Nat) : (markEv k n).length = n := by simp [markEv]
theorem markEv_get {k n i : Nat} (h : i < n) : (markEv k n)[i]? = some ⟨((k + 3 * i : Nat) : Int), ((k + 3 * i + 1 : Nat) : Int), ((k + 3 * i + 2 : Nat) : Int)⟩ := by simp [markEv, h]

end Go.Proofs.YtiabgomeogcpnaaDoor
