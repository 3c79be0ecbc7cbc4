/-
  Epoch marks as a call reads them, and the contracts of the laws' helpers on them: szEpochMarkS, toEpochMarkS, eqEpochMarkS, markEpochMarkS, heldEpochMarkS.
-/
import Derived.Test.YtgmcllfdhkjafaaEp
import Derived.Deep.RegionWith
namespace Go.Proofs.Ytgmcllfdhkjafaa
open Go.RowKit

/-- An epoch's mark: the epoch, and where it starts. -/
structure Mk where
  ep : Int
  st : Int
deriving DecidableEq

/-- At block k, from cell o on, a mark lies. -/
def MkAt (w : World) (k o : Nat) (f : Mk) : Prop :=
  w.cell? ⟨k, o, none⟩ = some (.int .i64 f.ep) ∧ w.cell? ⟨k, o + 1, none⟩ = some (.int .i64 f.st)

/-- The slice value at 'a' reads as these marks. -/
def Mks (w : World) (a : Option Addr) (fs : List Mk) : Prop :=
  ∀ i f, fs[i]? = some f → ∃ k o, a = some ⟨k, o, none⟩ ∧ MkAt w k (o + i * 2) f

theorem MkAt.below {w w' : World} {k o : Nat} {f : Mk} (h : MkAt w k o f) (hb : Below w.heap.size w w') : MkAt w' k o f := by
  obtain ⟨h0, h1⟩ := h
  have lt := lt_of_cell h0
  exact ⟨(hb.cell (p := ⟨k, o, none⟩) lt).trans h0, (hb.cell (p := ⟨k, o + 1, none⟩) lt).trans h1⟩

theorem Mks.below {w w' : World} {a : Option Addr} {fs : List Mk} (h : Mks w a fs) (hb : Below w.heap.size w w') : Mks w' a fs := fun i f hi => by
  obtain ⟨k, o, e, hB⟩ := h i f hi
  exact ⟨k, o, e, hB.below hb⟩

theorem Mks.nil (w : World) (a : Option Addr) : Mks w a [] := fun i f hi => by simp at hi

theorem getMk {fs : List Mk} {k : Nat} (h : k < fs.length) : ∃ s, fs[k]? = some s := ⟨_, List.getElem?_eq_getElem h⟩

theorem takeMk_snoc {ss : List Mk} {k : Nat} {s : Mk} (h : ss[k]? = some s) : ss.take (k + 1) = ss.take k ++ [s] := by
  rw [List.take_add_one, h]; rfl

def szM (n : Nat) : Int := if (1048576 : Int) - n < 0 then -1 else 1048576 - n

theorem Try.infoMark : (Try.prog.info? 56).map (fun i => (i.zero, i.size, i.bytes)) = some (some (.agg #[.int .i64 0, .int .i64 0]), 2, 16) := by kernel_rfl

/-- make([]T, n), T of several cells. -/
theorem run_make_manyM {P : Program} (t e : TypeId) (z : Value) (size bytes : Nat) (ht : P.underlying t = some (.slice e)) (hinfo : (P.info? e).map (fun i => (i.zero, i.size, i.bytes)) = some (some z, size, bytes))
    (kl kc : IntKind) (n : Nat) (hbytes : bytes * n ≤ 281474976710656) (h63 : n ≤ 9223372036854775807) (w : World) :
    (Instr.makeSlice t (.int kl (n : Int)) (.int kc (n : Int))).run P w = .ok (.slice (some ⟨w.heap.size, 0, none⟩) n n) (w.alloc (.cells (madeCells z.cells (n * size)) e)) := by
  obtain ⟨i, hi, hzz⟩ := Option.map_eq_some_iff.1 hinfo
  simp only [Prod.mk.injEq] at hzz
  obtain ⟨hz, rfl, rfl⟩ := hzz
  have hb' : (i.bytes : Int) * (n : Int) ≤ 281474976710656 := by
    have h : ((i.bytes * n : Nat) : Int) ≤ 281474976710656 := by omega
    rwa [Int.natCast_mul] at h
  have hr := run_make (P := P) w t e i z ht hi hz kl kc n n (by omega) (Int.le_refl _) hb' (by omega)
  simp only [Int.toNat_natCast] at hr
  exact hr

theorem rowIs_of_allocM (w : World) (c : Array Value) (t : TypeId) : (w.alloc (.cells c t)).rowIs w.heap.size t c.size (fun j => c.getD j undef) :=
  World.rowIs_alloc w c t _ (fun i hi => by simp [hi])

/-- The row's first k marks are these. -/
def MkTo (f : Nat → Value) (fs : List Mk) (k : Nat) : Prop :=
  ∀ i b, i < k → fs[i]? = some b → f (i * 2) = .int .i64 b.ep ∧ f (i * 2 + 1) = .int .i64 b.st

theorem mk_step {w : World} {N m : Nat} {t : TypeId} {f : Nat → Value} {fs : List Mk} {k : Nat} {b : Mk} (hR : w.rowIs N t m f) (hO : MkTo f fs k) (hb : fs[k]? = some b) :
    ∃ g, ((w.setCell ⟨N, k * 2, none⟩ (.int .i64 b.ep)).setCell ⟨N, k * 2 + 1, none⟩ (.int .i64 b.st)).rowIs N t m g ∧ MkTo g fs (k + 1) := by
  refine ⟨_, (hR.set _ _).set _ _, fun i c hi hc => ?_⟩
  by_cases e : i = k
  · subst e
    obtain rfl : b = c := by rw [hb] at hc; simpa using hc
    constructor <;> simp
  · obtain ⟨h0, h1⟩ := hO i c (by omega) hc
    constructor
    · rw [if_neg (by omega), if_neg (by omega)]; exact h0
    · rw [if_neg (by omega), if_neg (by omega)]; exact h1

theorem Mks.of_row {w : World} {N m : Nat} {t : TypeId} {f : Nat → Value} {fs : List Mk} (hR : w.rowIs N t m f) (hm : fs.length * 2 ≤ m) (hO : MkTo f fs fs.length) : Mks w (some ⟨N, 0, none⟩) fs := fun i b hi => by
  have hlt := (List.getElem?_eq_some_iff.1 hi).1
  obtain ⟨h0, h1⟩ := hO i b hlt hi
  refine ⟨N, 0, rfl, ?_, ?_⟩
  · rw [Nat.zero_add, hR.cell (by omega), h0]
  · rw [Nat.zero_add, hR.cell (by omega), h1]

/-- Room for n marks at 'a', in a block from B on that may be written. -/
def RowM (w : World) (B : Nat) (a : Option Addr) (n : Nat) : Prop :=
  n = 0 ∨ ∃ g m f, a = some ⟨g, 0, none⟩ ∧ B ≤ g ∧ n * 2 ≤ m ∧ w.rowIs g 56 m f

theorem RowM.of_block {w w' : World} {B : Nat} {a : Option Addr} {n : Nat} (h : RowM w B a n) (hs : ∀ b, InI a n b → w'.heap[b]? = w.heap[b]?) : RowM w' B a n := by
  rcases h with h | ⟨g, m, f, rfl, hg, hm, hR⟩
  · exact .inl h
  · by_cases h0 : n = 0
    · exact .inl h0
    · exact .inr ⟨g, m, f, rfl, hg, hm, hR.of_block (hs g ⟨by omega, 0, none, rfl⟩)⟩

theorem RowM.lt {w : World} {B : Nat} {a : Option Addr} {n b : Nat} (h : RowM w B a n) (hb : InI a n b) : B ≤ b ∧ b < w.heap.size := by
  obtain ⟨h0, o, s, e⟩ := hb
  rcases h with h | ⟨g, m, f, rfl, hg, hm, hR⟩
  · omega
  · simp only [Option.some.injEq, Addr.mk.injEq] at e
    have := hR.lt
    omega

theorem RowM.below {w w' : World} {B : Nat} {a : Option Addr} {n : Nat} (h : RowM w B a n) (hb : Below w.heap.size w w') : RowM w' B a n :=
  h.of_block fun b hi => hb.block b (h.lt hi).2

theorem RowM.mono {w : World} {B B' : Nat} {a : Option Addr} {n : Nat} (h : RowM w B a n) (hb : B' ≤ B) : RowM w B' a n := by
  rcases h with h | ⟨g, m, f, e, hg, r⟩
  · exact .inl h
  · exact .inr ⟨g, m, f, e, by omega, r⟩

theorem Mks.of_block {w w' : World} {a : Option Addr} {fs : List Mk} (h : Mks w a fs) (hs : ∀ b, InI a fs.length b → w'.heap[b]? = w.heap[b]?) : Mks w' a fs := fun i s hi => by
  obtain ⟨b, off, e, h0, h1⟩ := h i s hi
  have hlt := (List.getElem?_eq_some_iff.1 hi).1
  have hh := hs b ⟨by omega, off, none, e⟩
  exact ⟨b, off, e, (World.cell?_of_block (a := ⟨b, off + i * 2, none⟩) hh).trans h0, (World.cell?_of_block (a := ⟨b, off + i * 2 + 1, none⟩) hh).trans h1⟩

theorem Mks.lt {w : World} {a : Option Addr} {fs : List Mk} (h : Mks w a fs) : ∀ b, InI a fs.length b → b < w.heap.size := fun b ⟨h0, o, s, e⟩ => by
  obtain ⟨z, hz⟩ := getMk (fs := fs) h0
  obtain ⟨k, o', e', hc, -⟩ := h 0 z hz
  rw [e'] at e
  simp only [Option.some.injEq, Addr.mk.injEq] at e
  have := lt_of_cell hc
  omega

/-- n marked marks from k on. -/
def markMs (k n : Nat) : List Mk := (List.range n).map fun i => ⟨((k + 2 * i : Nat) : Int), ((k + 2 * i + 1 : Nat) : Int)⟩

theorem markMs_length (k n : Nat) : (markMs k n).length = n := by simp [markMs]
theorem markMs_get {k n i : Nat} (h : i < n) : (markMs k n)[i]? = some ⟨((k + 2 * i : Nat) : Int), ((k + 2 * i + 1 : Nat) : Int)⟩ := by simp [markMs, h]

end Go.Proofs.Ytgmcllfdhkjafaa
