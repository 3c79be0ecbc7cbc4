/-
  Lists of Vote as a call reads them, and the contracts of the laws' helpers on them: szVote, szVoteS, toVote, toVoteS, eqVote, eqVoteS. Made by mkbag.py.
-/
import Derived.Test.YthbhokpjedndaaaBagAid
namespace Go.Proofs.Ythbhokpjedndaaa
open Go.RowKit

/-- One Vote: what its fields read. -/
structure Vt where
  term : Int
  ldr : Int
deriving DecidableEq

/-- At block K, from cell o on, one lies. -/
def VtAt (w : World) (K o : Nat) (c : Vt) : Prop :=
  w.cell? ⟨K, o, none⟩ = some (.int .i64 c.term) ∧ w.cell? ⟨K, o + 1, none⟩ = some (.int .i64 c.ldr)

/-- The slice value at 'a' reads as these. -/
def Vts (w : World) (a : Option Addr) (l : List Vt) : Prop :=
  ∀ i c, l[i]? = some c → ∃ K o, a = some ⟨K, o, none⟩ ∧ VtAt w K (o + i * 2) c

theorem VtAt.below {w w' : World} {K o : Nat} {c : Vt} (h : VtAt w K o c) (hb : Below w.heap.size w w') : VtAt w' K o c := by
  obtain ⟨c0, c1⟩ := h
  have lt := lt_of_cell c0
  exact ⟨(hb.cell (p := ⟨K, o, none⟩) lt).trans c0, (hb.cell (p := ⟨K, o + 1, none⟩) lt).trans c1⟩

theorem Vts.below {w w' : World} {a : Option Addr} {l : List Vt} (h : Vts w a l) (hb : Below w.heap.size w w') : Vts w' a l := fun i c hi => by
  obtain ⟨K, o, e, hB⟩ := h i c hi
  exact ⟨K, o, e, hB.below hb⟩

theorem Vts.nil (w : World) (a : Option Addr) : Vts w a [] := fun i f hi => by simp at hi

theorem getVt {l : List Vt} {k : Nat} (h : k < l.length) : ∃ s, l[k]? = some s := ⟨_, List.getElem?_eq_getElem h⟩

theorem takeVt_snoc {l : List Vt} {k : Nat} {s : Vt} (h : l[k]? = some s) : l.take (k + 1) = l.take k ++ [s] := by
  rw [List.take_add_one, h]; rfl

theorem dropVt_cons {l : List Vt} {k : Nat} {b : Vt} (h : l[k]? = some b) : l.drop k = b :: l.drop (k + 1) := by
  obtain ⟨hlt, e⟩ := List.getElem?_eq_some_iff.1 h
  rw [List.drop_eq_getElem_cons hlt, e]

/-- What toVote answers. -/
def VtNew (w w' : World) (c : Vt) (r : Ending) : Prop :=
  r = .returned (.agg #[.int .i64 c.term, .int .i64 c.ldr]) ∧ Below w.heap.size w w'

theorem Try.infoVt : (Try.prog.info? 94).map (fun i => (i.zero, i.size, i.bytes)) = some (some (.agg #[.int .i64 0, .int .i64 0]), 2, 16) := by kernel_rfl

/-- The row at N holds the first k; their own lists lie behind N. -/
def VtTo (_w : World) (_N : Nat) (f : Nat → Value) (l : List Vt) (k : Nat) : Prop :=
  ∀ i c, i < k → l[i]? = some c → f (i * 2) = .int .i64 c.term ∧ f (i * 2 + 1) = .int .i64 c.ldr

theorem VtTo.below {w w' : World} {N : Nat} {f : Nat → Value} {l : List Vt} {k : Nat} (h : VtTo w N f l k) (_hb : Below w.heap.size w w') : VtTo w' N f l k := fun i c hi hc => by
  obtain ⟨c0, c1⟩ := h i c hi hc
  exact ⟨c0, c1⟩

set_option maxHeartbeats 1000000 in
theorem VtTo_step {w : World} {N : Nat} {t : TypeId} {m : Nat} {f : Nat → Value} {l : List Vt} {k : Nat} {b : Vt} (hR : w.rowIs N t (m * 2) f) (hO : VtTo w N f l k) (hb : l[k]? = some b) :
    ∃ g, ((w.setCell ⟨N, k * 2, none⟩ (.int .i64 b.term)).setCell ⟨N, k * 2 + 1, none⟩ (.int .i64 b.ldr)).rowIs N t (m * 2) g ∧ VtTo ((w.setCell ⟨N, k * 2, none⟩ (.int .i64 b.term)).setCell ⟨N, k * 2 + 1, none⟩ (.int .i64 b.ldr)) N g l (k + 1) := by
  refine ⟨_, ((hR.set _ _).set _ _), fun i c hi hc => ?_⟩
  by_cases e : i = k
  · subst e
    obtain rfl : b = c := by rw [hb] at hc; simpa using hc
    refine ⟨?_, ?_⟩ <;> simp
  · obtain ⟨c0, c1⟩ := hO i c (by omega) hc
    refine ⟨?_, ?_⟩
    · rw [if_neg (by omega), if_neg (by omega)]; exact c0
    · rw [if_neg (by omega), if_neg (by omega)]; exact c1

theorem Vts.of_to {w : World} {N : Nat} {t : TypeId} {f : Nat → Value} {l : List Vt} (hR : w.rowIs N t (l.length * 2) f) (hO : VtTo w N f l l.length) : Vts w (some ⟨N, 0, none⟩) l := fun i c hi => by
  have hlt := (List.getElem?_eq_some_iff.1 hi).1
  obtain ⟨c0, c1⟩ := hO i c hlt hi
  refine ⟨N, 0, rfl, ?_, ?_⟩
  · rw [Nat.zero_add, hR.cell (by omega), c0]
  · rw [Nat.zero_add, hR.cell (by omega), c1]

/-- It reads so, and all of it lies in blocks from B on. -/
def VtsA (w : World) (B : Nat) (a : Option Addr) (l : List Vt) : Prop := ∀ w2 : World, (∀ b, B ≤ b → b < w.heap.size → w2.heap[b]? = w.heap[b]?) → Vts w2 a l

theorem VtsA.here {w : World} {B : Nat} {a : Option Addr} {l : List Vt} (h : VtsA w B a l) : Vts w a l := h w fun _ _ _ => rfl

theorem VtsA.below {w w' : World} {B : Nat} {a : Option Addr} {l : List Vt} (h : VtsA w B a l) (hb : Below w.heap.size w w') : VtsA w' B a l := fun w2 h2 =>
  h w2 fun b h1 hl => (h2 b h1 (by have := hb.size; omega)).trans (hb.block b hl)

theorem VtsA.mono {w : World} {B B' : Nat} {a : Option Addr} {l : List Vt} (h : VtsA w B a l) (hb : B' ≤ B) : VtsA w B' a l := fun w2 h2 =>
  h w2 fun b h1 hl => h2 b (by omega) hl

theorem VtsA.setR {w : World} {B N : Nat} {a : Option Addr} {l : List Vt} (h : VtsA w B a l) (hN : N < B) (o : Nat) (v : Value) : VtsA (w.setCell ⟨N, o, none⟩ v) B a l := fun w2 h2 =>
  h w2 fun b h1 hl => (h2 b h1 (by simpa using hl)).trans (Below.heap_setCell w ⟨N, o, none⟩ v b (by simp; omega))

theorem VtsA.of_to {w : World} {N : Nat} {t : TypeId} {f : Nat → Value} {l : List Vt} (hR : w.rowIs N t (l.length * 2) f) (hO : VtTo w N f l l.length) : VtsA w N (some ⟨N, 0, none⟩) l := fun w2 h2 => by
  have hO2 : VtTo w2 N f l l.length := fun i c hi hc => by
    obtain ⟨c0, c1⟩ := hO i c hi hc
    exact ⟨c0, c1⟩
  exact Vts.of_to (hR.of_block (h2 N (Nat.le_refl _) hR.lt)) hO2

/-- Room for n of them at 'a', in a block from B on that may be written. -/
def RowVt (w : World) (B : Nat) (a : Option Addr) (n : Nat) : Prop :=
  n = 0 ∨ ∃ g m f, a = some ⟨g, 0, none⟩ ∧ B ≤ g ∧ n * 2 ≤ m ∧ w.rowIs g 94 m f

theorem RowVt.of_block {w w' : World} {B : Nat} {a : Option Addr} {n : Nat} (h : RowVt w B a n) (hs : ∀ b, InI a n b → w'.heap[b]? = w.heap[b]?) : RowVt w' B a n := by
  rcases h with h | ⟨g, m, f, rfl, hg, hm, hR⟩
  · exact .inl h
  · by_cases h0 : n = 0
    · exact .inl h0
    · exact .inr ⟨g, m, f, rfl, hg, hm, hR.of_block (hs g ⟨by omega, 0, none, rfl⟩)⟩

theorem RowVt.lt {w : World} {B : Nat} {a : Option Addr} {n b : Nat} (h : RowVt w B a n) (hb : InI a n b) : B ≤ b ∧ b < w.heap.size := by
  obtain ⟨h0, o, s, e⟩ := hb
  rcases h with h | ⟨g, m, f, rfl, hg, hm, hR⟩
  · omega
  · simp only [Option.some.injEq, Addr.mk.injEq] at e
    have := hR.lt
    omega

theorem RowVt.below {w w' : World} {B : Nat} {a : Option Addr} {n : Nat} (h : RowVt w B a n) (hb : Below w.heap.size w w') : RowVt w' B a n :=
  h.of_block fun b hi => hb.block b (h.lt hi).2

theorem RowVt.mono {w : World} {B B' : Nat} {a : Option Addr} {n : Nat} (h : RowVt w B a n) (hb : B' ≤ B) : RowVt w B' a n := by
  rcases h with h | ⟨g, m, f, e, hg, r⟩
  · exact .inl h
  · exact .inr ⟨g, m, f, e, by omega, r⟩

theorem Vts.of_block {w w' : World} {a : Option Addr} {fs : List Vt} (h : Vts w a fs) (hs : ∀ b, InI a fs.length b → w'.heap[b]? = w.heap[b]?) : Vts w' a fs := fun i s hi => by
  obtain ⟨b, off, e, h0, h1⟩ := h i s hi
  have hlt := (List.getElem?_eq_some_iff.1 hi).1
  have hh := hs b ⟨by omega, off, none, e⟩
  exact ⟨b, off, e, (World.cell?_of_block (a := ⟨b, off + i * 2, none⟩) hh).trans h0, (World.cell?_of_block (a := ⟨b, off + i * 2 + 1, none⟩) hh).trans h1⟩

theorem Vts.lt {w : World} {a : Option Addr} {fs : List Vt} (h : Vts w a fs) : ∀ b, InI a fs.length b → b < w.heap.size := fun b ⟨h0, o, s, e⟩ => by
  obtain ⟨x, hx⟩ := getVt h0
  obtain ⟨k, off, e2, h1, -⟩ := h 0 x hx
  have := lt_of_cell h1
  rw [e] at e2
  simp only [Option.some.injEq, Addr.mk.injEq] at e2
  omega

theorem Vts.setR {w : World} {B N : Nat} {a : Option Addr} {zs : List Vt} (h : Vts w a zs) (r : RowVt w B a zs.length) (hN : N < B) (o : Nat) (v : Value) : Vts (w.setCell ⟨N, o, none⟩ v) a zs :=
  h.of_block fun b hb => Below.heap_setCell w ⟨N, o, none⟩ v b (by have := (r.lt hb).1; simp; omega)

theorem RowVt.setR {w : World} {B N n : Nat} {a : Option Addr} (r : RowVt w B a n) (hN : N < B) (o : Nat) (v : Value) : RowVt (w.setCell ⟨N, o, none⟩ v) B a n :=
  r.of_block fun b hb => Below.heap_setCell w ⟨N, o, none⟩ v b (by have := (r.lt hb).1; simp; omega)

set_option maxHeartbeats 1000000 in
theorem eqVote_same (c : Vt) (w : World) :
    Calls Try.prog 61 #[.agg #[.int .i64 c.term, .int .i64 c.ldr], .agg #[.int .i64 c.term, .int .i64 c.ldr]] w fun r w' => r = .returned (.bool true) ∧ Below w.heap.size w w' := by
  have HB : ∀ x y, Below w.heap.size w ((w.alloc x).alloc y) := fun _ _ => ((Below.refl _ _).alloc (Nat.le_refl _) _).alloc (by simp) _
  go_enter Try.func61, Try.ntmps61
  go_wp2
  go_ret
  exact ⟨rfl, HB _ _⟩

set_option maxHeartbeats 1000000 in
theorem eqVoteS_same (a a2 : Option Addr) (c c2 : Nat) (l : List Vt) (w : World) (hx : Vts w a l) (hy : Vts w a2 l) (hl : l.length ≤ maxLen) :
    Calls Try.prog 39 #[.slice a l.length c, .slice a2 l.length c2] w fun e w' => e = .returned (.bool true) ∧ Below w.heap.size w w' := by
  unfold maxLen at hl
  go_enter Try.func39, Try.ntmps39
  go_wp2
  go_loopw [5] (fun i wr => ∃ k : Nat, k ≤ l.length ∧ i = .int .i64 k ∧ Below w.heap.size w wr) (fun i _ => l.length - (intOf i).toNat)
  case atStart => exact ⟨0, Nat.zero_le _, rfl, Below.refl _ _⟩
  case round =>
    obtain ⟨k, hk, rfl, hB⟩ := hrel
    by_cases hlt : k < l.length
    · obtain ⟨b, hkb⟩ := getVt hlt
      obtain ⟨kb, ob, rfl, hbt⟩ := (hx.below hB) k b hkb
      obtain ⟨c0, c1⟩ := hbt
      obtain ⟨kb2, ob2, rfl, hbt2⟩ := (hy.below hB) k b hkb
      obtain ⟨d0, d1⟩ := hbt2
      clear hx hy hkb
      go_wp2
      go_region_with (go_at_call 61; refine (eqVote_same _  _ ).mono ?_; rintro r w1 ⟨rfl, hB1⟩)
      all_goals
        go_wp2
        go_roundw
        case rel => exact ⟨k + 1, by omega, by go_num, hB.drew.trans (hB1.mono (by simpa using hB.size))⟩
        case measure => simp [intOf]; omega
    · go_wp2
      go_ret
      exact ⟨rfl, hB⟩

end Go.Proofs.Ythbhokpjedndaaa
