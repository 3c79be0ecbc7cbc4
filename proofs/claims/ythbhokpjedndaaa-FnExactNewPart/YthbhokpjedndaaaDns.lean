/-
  What was done, as a call reads it: lists of three numbers each, and the contracts of the laws' helpers on them: szDoneS, toDoneS, eqDoneS, markDoneS, heldDoneS.
-/
import Derived.Test.YthbhokpjedndaaaInts
import Derived.Deep.RegionWith
namespace Go.Proofs.Ythbhokpjedndaaa
open Go.RowKit

structure Dn where
  sq : Int
  many : Int
  off : Int
deriving DecidableEq

abbrev Dn.val (d : Dn) : Value := .agg #[.int .i64 d.sq, .int .i64 d.many, .int .i64 d.off]

def DnAt (w : World) (k o : Nat) (f : Dn) : Prop :=
  w.cell? ⟨k, o, none⟩ = some (.int .i64 f.sq) ∧ w.cell? ⟨k, o + 1, none⟩ = some (.int .i64 f.many) ∧ w.cell? ⟨k, o + 2, none⟩ = some (.int .i64 f.off)

/-- The slice value at 'a' reads as these. -/
def Dns (w : World) (a : Option Addr) (fs : List Dn) : Prop :=
  ∀ i f, fs[i]? = some f → ∃ k o, a = some ⟨k, o, none⟩ ∧ DnAt w k (o + i * 3) f

theorem DnAt.below {w w' : World} {k o : Nat} {f : Dn} (h : DnAt w k o f) (hb : Below w.heap.size w w') : DnAt w' k o f := by
  obtain ⟨h0, h1, h2⟩ := h
  have lt := lt_of_cell h0
  exact ⟨(hb.cell (p := ⟨k, o, none⟩) lt).trans h0, (hb.cell (p := ⟨k, o + 1, none⟩) lt).trans h1, (hb.cell (p := ⟨k, o + 2, none⟩) lt).trans h2⟩

theorem Dns.below {w w' : World} {a : Option Addr} {fs : List Dn} (h : Dns w a fs) (hb : Below w.heap.size w w') : Dns w' a fs := fun i f hi => by
  obtain ⟨k, o, e, hB⟩ := h i f hi
  exact ⟨k, o, e, hB.below hb⟩

theorem Dns.nil (w : World) (a : Option Addr) : Dns w a [] := fun i f hi => by simp at hi

theorem getDn {fs : List Dn} {k : Nat} (h : k < fs.length) : ∃ s, fs[k]? = some s := ⟨_, List.getElem?_eq_getElem h⟩

def szD (n : Nat) (left : Int) : Int := if left - n < 0 then -1 else left - n

theorem Try.infoDone : (Try.prog.info? 103).map (fun i => (i.zero, i.size, i.bytes)) = some (some (.agg #[.int .i64 0, .int .i64 0, .int .i64 0]), 3, 24) := by kernel_rfl

/-- make([]T, n), T of several cells. -/
theorem run_make_manyD {P : Program} (t e : TypeId) (z : Value) (size bytes : Nat) (ht : P.underlying t = some (.slice e)) (hinfo : (P.info? e).map (fun i => (i.zero, i.size, i.bytes)) = some (some z, size, bytes))
    (kl kc : IntKind) (n : Nat) (hbytes : bytes * n ≤ 281474976710656) (h63 : n ≤ 9223372036854775807) (w : World) :
    (Instr.makeSlice t (.int kl (n : Int)) (.int kc (n : Int))).run P w = .ok (.slice (some ⟨w.heap.size, 0, none⟩) n n) (w.alloc (.cells (madeCells z.cells (n * size)) e)) := by
  obtain ⟨i, hi, hzz⟩ := Option.map_eq_some_iff.1 hinfo
  simp only [Prod.mk.injEq] at hzz
  obtain ⟨hz, rfl, rfl⟩ := hzz
  have hb' : (i.bytes : Int) * (n : Int) ≤ 281474976710656 := by
    have h : ((i.bytes * n : Nat) : Int) ≤ 281474976710656 := by omega
    rwa [Int.natCast_mul] at h
  have hr := run_make (P := P) w t e i z ht hi hz kl kc n n (by omega) (Int.le_refl _) hb' (by omega)
  simp only [Int.toNat_natCast] at hr
  exact hr

theorem rowIs_of_allocD (w : World) (c : Array Value) (t : TypeId) : (w.alloc (.cells c t)).rowIs w.heap.size t c.size (fun j => c.getD j undef) :=
  World.rowIs_alloc w c t _ (fun i hi => by simp [hi])

/-- The row's first k are these. -/
def DnTo (f : Nat → Value) (fs : List Dn) (k : Nat) : Prop :=
  ∀ i b, i < k → fs[i]? = some b → f (i * 3) = .int .i64 b.sq ∧ f (i * 3 + 1) = .int .i64 b.many ∧ f (i * 3 + 2) = .int .i64 b.off

theorem dn_step {w : World} {N m : Nat} {t : TypeId} {f : Nat → Value} {fs : List Dn} {k : Nat} {b : Dn} (hR : w.rowIs N t m f) (hO : DnTo f fs k) (hb : fs[k]? = some b) :
    ∃ g, (((w.setCell ⟨N, k * 3, none⟩ (.int .i64 b.sq)).setCell ⟨N, k * 3 + 1, none⟩ (.int .i64 b.many)).setCell ⟨N, k * 3 + 2, none⟩ (.int .i64 b.off)).rowIs N t m g ∧ DnTo g fs (k + 1) := by
  refine ⟨_, ((hR.set _ _).set _ _).set _ _, fun i c hi hc => ?_⟩
  by_cases e : i = k
  · subst e
    obtain rfl : b = c := by rw [hb] at hc; simpa using hc
    refine ⟨?_, ?_, ?_⟩ <;> simp
  · obtain ⟨h0, h1, h2⟩ := hO i c (by omega) hc
    refine ⟨?_, ?_, ?_⟩
    · rw [if_neg (by omega), if_neg (by omega), if_neg (by omega)]; exact h0
    · rw [if_neg (by omega), if_neg (by omega), if_neg (by omega)]; exact h1
    · rw [if_neg (by omega), if_neg (by omega), if_neg (by omega)]; exact h2

theorem Dns.of_row {w : World} {N m : Nat} {t : TypeId} {f : Nat → Value} {fs : List Dn} (hR : w.rowIs N t m f) (hm : fs.length * 3 ≤ m) (hO : DnTo f fs fs.length) : Dns w (some ⟨N, 0, none⟩) fs := fun i b hi => by
  have hlt := (List.getElem?_eq_some_iff.1 hi).1
  obtain ⟨h0, h1, h2⟩ := hO i b hlt hi
  refine ⟨N, 0, rfl, ?_, ?_, ?_⟩
  · rw [Nat.zero_add, hR.cell (by omega), h0]
  · rw [Nat.zero_add, hR.cell (by omega), h1]
  · rw [Nat.zero_add, hR.cell (by omega), h2]

/-- Room for n of them at 'a', in a block from B on that may be written. -/
def RowD (w : World) (B : Nat) (a : Option Addr) (n : Nat) : Prop :=
  n = 0 ∨ ∃ g m f, a = some ⟨g, 0, none⟩ ∧ B ≤ g ∧ n * 3 ≤ m ∧ w.rowIs g 103 m f

theorem RowD.of_block {w w' : World} {B : Nat} {a : Option Addr} {n : Nat} (h : RowD w B a n) (hs : ∀ b, InI a n b → w'.heap[b]? = w.heap[b]?) : RowD w' B a n := by
  rcases h with h | ⟨g, m, f, rfl, hg, hm, hR⟩
  · exact .inl h
  · by_cases h0 : n = 0
    · exact .inl h0
    · exact .inr ⟨g, m, f, rfl, hg, hm, hR.of_block (hs g ⟨by omega, 0, none, rfl⟩)⟩

theorem RowD.lt {w : World} {B : Nat} {a : Option Addr} {n b : Nat} (h : RowD w B a n) (hb : InI a n b) : B ≤ b ∧ b < w.heap.size := by
  obtain ⟨h0, o, s, e⟩ := hb
  rcases h with h | ⟨g, m, f, rfl, hg, hm, hR⟩
  · omega
  · simp only [Option.some.injEq, Addr.mk.injEq] at e
    have := hR.lt
    omega

theorem RowD.below {w w' : World} {B : Nat} {a : Option Addr} {n : Nat} (h : RowD w B a n) (hb : Below w.heap.size w w') : RowD w' B a n :=
  h.of_block fun b hi => hb.block b (h.lt hi).2

theorem RowD.mono {w : World} {B B' : Nat} {a : Option Addr} {n : Nat} (h : RowD w B a n) (hb : B' ≤ B) : RowD w B' a n := by
  rcases h with h | ⟨g, m, f, e, hg, r⟩
  · exact .inl h
  · exact .inr ⟨g, m, f, e, by omega, r⟩

theorem Dns.of_block {w w' : World} {a : Option Addr} {fs : List Dn} (h : Dns w a fs) (hs : ∀ b, InI a fs.length b → w'.heap[b]? = w.heap[b]?) : Dns w' a fs := fun i s hi => by
  obtain ⟨b, off, e, h0, h1, h2⟩ := h i s hi
  have hlt := (List.getElem?_eq_some_iff.1 hi).1
  have hh := hs b ⟨by omega, off, none, e⟩
  exact ⟨b, off, e, (World.cell?_of_block (a := ⟨b, off + i * 3, none⟩) hh).trans h0, (World.cell?_of_block (a := ⟨b, off + i * 3 + 1, none⟩) hh).trans h1, (World.cell?_of_block (a := ⟨b, off + i * 3 + 2, none⟩) hh).trans h2⟩

set_option maxHeartbeats 1000000 in
theorem eqDone_same (f : Dn) (w : World) :
    Calls Try.prog 85 #[f.val, f.val] w fun r w' => r = .returned (.bool true) ∧ Below w.heap.size w w' := by
  have hb : ∀ x y, Below w.heap.size w ((w.alloc x).alloc y) := fun _ _ => ((Below.refl _ _).alloc (Nat.le_refl _) _).alloc (by simp) _
  go_enter Try.func85, Try.ntmps85
  go_wp2
  go_ret
  exact ⟨rfl, hb _ _⟩

set_option maxHeartbeats 1000000 in
theorem eqDoneS_same (a a2 : Option Addr) (c c2 : Nat) (fs : List Dn) (w : World) (hx : Dns w a fs) (hy : Dns w a2 fs) (hl : fs.length ≤ maxLen) :
    Calls Try.prog 74 #[.slice a fs.length c, .slice a2 fs.length c2] w fun e w' => e = .returned (.bool true) ∧ Below w.heap.size w w' := by
  unfold maxLen at hl
  go_enter Try.func74, Try.ntmps74
  go_wp2
  go_loopw [5] (fun i wr => ∃ k : Nat, k ≤ fs.length ∧ i = .int .i64 k ∧ Below w.heap.size w wr) (fun i _ => fs.length - (intOf i).toNat)
  case atStart => exact ⟨0, Nat.zero_le _, rfl, Below.refl _ _⟩
  case round =>
    obtain ⟨k, hk, rfl, hB⟩ := hrel
    by_cases hlt : k < fs.length
    · obtain ⟨b, hkb⟩ := getDn hlt
      obtain ⟨kb, ob, rfl, c0, c1, c2⟩ := (hx.below hB) k b hkb
      obtain ⟨kb2, ob2, rfl, d0, d1, d2⟩ := (hy.below hB) k b hkb
      clear hx hy hkb
      go_wp2
      go_region_with (go_at_call 85; refine (eqDone_same b _).mono ?_; rintro r w1 ⟨rfl, hB1⟩)
      all_goals
        go_wp2
        go_roundw
        case rel => exact ⟨k + 1, by omega, by go_num, hB.drew.trans (hB1.mono (by simpa using hB.size))⟩
        case measure => simp [intOf]; omega
    · go_wp2
      go_ret
      exact ⟨rfl, hB⟩

end Go.Proofs.Ythbhokpjedndaaa
