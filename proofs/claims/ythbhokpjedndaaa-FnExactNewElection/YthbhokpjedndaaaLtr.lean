/-
  Lists of Letter as a call reads them, and the contracts of the laws' helpers on them: szLetter, szLetterS, toLetter, toLetterS, eqLetter, eqLetterS. Made by mkbag.py.
-/
import Derived.Test.YthbhokpjedndaaaBagAid
namespace Go.Proofs.Ythbhokpjedndaaa
open Go.RowKit

/-- One Letter: what its fields read. -/
structure Lt where
  to : Int
  fr : Int
  term : Int
  asks : Bool
  last : Int
  long : Int
  grant : Bool
deriving DecidableEq

/-- At block K, from cell o on, one lies. -/
def LtAt (w : World) (K o : Nat) (c : Lt) : Prop :=
  w.cell? ⟨K, o, none⟩ = some (.int .i64 c.to) ∧ w.cell? ⟨K, o + 1, none⟩ = some (.int .i64 c.fr) ∧ w.cell? ⟨K, o + 2, none⟩ = some (.int .i64 c.term) ∧ w.cell? ⟨K, o + 3, none⟩ = some (.bool c.asks) ∧ w.cell? ⟨K, o + 4, none⟩ = some (.int .i64 c.last) ∧ w.cell? ⟨K, o + 5, none⟩ = some (.int .i64 c.long) ∧ w.cell? ⟨K, o + 6, none⟩ = some (.bool c.grant)

/-- The slice value at 'a' reads as these. -/
def Lts (w : World) (a : Option Addr) (l : List Lt) : Prop :=
  ∀ i c, l[i]? = some c → ∃ K o, a = some ⟨K, o, none⟩ ∧ LtAt w K (o + i * 7) c

theorem LtAt.below {w w' : World} {K o : Nat} {c : Lt} (h : LtAt w K o c) (hb : Below w.heap.size w w') : LtAt w' K o c := by
  obtain ⟨c0, c1, c2, c3, c4, c5, c6⟩ := h
  have lt := lt_of_cell c0
  exact ⟨(hb.cell (p := ⟨K, o, none⟩) lt).trans c0, (hb.cell (p := ⟨K, o + 1, none⟩) lt).trans c1, (hb.cell (p := ⟨K, o + 2, none⟩) lt).trans c2, (hb.cell (p := ⟨K, o + 3, none⟩) lt).trans c3, (hb.cell (p := ⟨K, o + 4, none⟩) lt).trans c4, (hb.cell (p := ⟨K, o + 5, none⟩) lt).trans c5, (hb.cell (p := ⟨K, o + 6, none⟩) lt).trans c6⟩

theorem Lts.below {w w' : World} {a : Option Addr} {l : List Lt} (h : Lts w a l) (hb : Below w.heap.size w w') : Lts w' a l := fun i c hi => by
  obtain ⟨K, o, e, hB⟩ := h i c hi
  exact ⟨K, o, e, hB.below hb⟩

theorem Lts.nil (w : World) (a : Option Addr) : Lts w a [] := fun i f hi => by simp at hi

theorem getLt {l : List Lt} {k : Nat} (h : k < l.length) : ∃ s, l[k]? = some s := ⟨_, List.getElem?_eq_getElem h⟩

theorem takeLt_snoc {l : List Lt} {k : Nat} {s : Lt} (h : l[k]? = some s) : l.take (k + 1) = l.take k ++ [s] := by
  rw [List.take_add_one, h]; rfl

theorem dropLt_cons {l : List Lt} {k : Nat} {b : Lt} (h : l[k]? = some b) : l.drop k = b :: l.drop (k + 1) := by
  obtain ⟨hlt, e⟩ := List.getElem?_eq_some_iff.1 h
  rw [List.drop_eq_getElem_cons hlt, e]

/-- What toLetter answers. -/
def LtNew (w w' : World) (c : Lt) (r : Ending) : Prop :=
  r = .returned (.agg #[.int .i64 c.to, .int .i64 c.fr, .int .i64 c.term, .bool c.asks, .int .i64 c.last, .int .i64 c.long, .bool c.grant]) ∧ Below w.heap.size w w'

theorem Try.infoLt : (Try.prog.info? 91).map (fun i => (i.zero, i.size, i.bytes)) = some (some (.agg #[.int .i64 0, .int .i64 0, .int .i64 0, .bool false, .int .i64 0, .int .i64 0, .bool false]), 7, 56) := by kernel_rfl

/-- The row at N holds the first k; their own lists lie behind N. -/
def LtTo (_w : World) (_N : Nat) (f : Nat → Value) (l : List Lt) (k : Nat) : Prop :=
  ∀ i c, i < k → l[i]? = some c → f (i * 7) = .int .i64 c.to ∧ f (i * 7 + 1) = .int .i64 c.fr ∧ f (i * 7 + 2) = .int .i64 c.term ∧ f (i * 7 + 3) = .bool c.asks ∧ f (i * 7 + 4) = .int .i64 c.last ∧ f (i * 7 + 5) = .int .i64 c.long ∧ f (i * 7 + 6) = .bool c.grant

theorem LtTo.below {w w' : World} {N : Nat} {f : Nat → Value} {l : List Lt} {k : Nat} (h : LtTo w N f l k) (_hb : Below w.heap.size w w') : LtTo w' N f l k := fun i c hi hc => by
  obtain ⟨c0, c1, c2, c3, c4, c5, c6⟩ := h i c hi hc
  exact ⟨c0, c1, c2, c3, c4, c5, c6⟩

set_option maxHeartbeats 1000000 in
theorem LtTo_step {w : World} {N : Nat} {t : TypeId} {m : Nat} {f : Nat → Value} {l : List Lt} {k : Nat} {b : Lt} (hR : w.rowIs N t (m * 7) f) (hO : LtTo w N f l k) (hb : l[k]? = some b) :
    ∃ g, (((((((w.setCell ⟨N, k * 7, none⟩ (.int .i64 b.to)).setCell ⟨N, k * 7 + 1, none⟩ (.int .i64 b.fr)).setCell ⟨N, k * 7 + 2, none⟩ (.int .i64 b.term)).setCell ⟨N, k * 7 + 3, none⟩ (.bool b.asks)).setCell ⟨N, k * 7 + 4, none⟩ (.int .i64 b.last)).setCell ⟨N, k * 7 + 5, none⟩ (.int .i64 b.long)).setCell ⟨N, k * 7 + 6, none⟩ (.bool b.grant)).rowIs N t (m * 7) g ∧ LtTo (((((((w.setCell ⟨N, k * 7, none⟩ (.int .i64 b.to)).setCell ⟨N, k * 7 + 1, none⟩ (.int .i64 b.fr)).setCell ⟨N, k * 7 + 2, none⟩ (.int .i64 b.term)).setCell ⟨N, k * 7 + 3, none⟩ (.bool b.asks)).setCell ⟨N, k * 7 + 4, none⟩ (.int .i64 b.last)).setCell ⟨N, k * 7 + 5, none⟩ (.int .i64 b.long)).setCell ⟨N, k * 7 + 6, none⟩ (.bool b.grant)) N g l (k + 1) := by
  refine ⟨_, (((((((hR.set _ _).set _ _).set _ _).set _ _).set _ _).set _ _).set _ _), fun i c hi hc => ?_⟩
  by_cases e : i = k
  · subst e
    obtain rfl : b = c := by rw [hb] at hc; simpa using hc
    refine ⟨?_, ?_, ?_, ?_, ?_, ?_, ?_⟩ <;> simp
  · obtain ⟨c0, c1, c2, c3, c4, c5, c6⟩ := hO i c (by omega) hc
    refine ⟨?_, ?_, ?_, ?_, ?_, ?_, ?_⟩
    · rw [if_neg (by omega), if_neg (by omega), if_neg (by omega), if_neg (by omega), if_neg (by omega), if_neg (by omega), if_neg (by omega)]; exact c0
    · rw [if_neg (by omega), if_neg (by omega), if_neg (by omega), if_neg (by omega), if_neg (by omega), if_neg (by omega), if_neg (by omega)]; exact c1
    · rw [if_neg (by omega), if_neg (by omega), if_neg (by omega), if_neg (by omega), if_neg (by omega), if_neg (by omega), if_neg (by omega)]; exact c2
    · rw [if_neg (by omega), if_neg (by omega), if_neg (by omega), if_neg (by omega), if_neg (by omega), if_neg (by omega), if_neg (by omega)]; exact c3
    · rw [if_neg (by omega), if_neg (by omega), if_neg (by omega), if_neg (by omega), if_neg (by omega), if_neg (by omega), if_neg (by omega)]; exact c4
    · rw [if_neg (by omega), if_neg (by omega), if_neg (by omega), if_neg (by omega), if_neg (by omega), if_neg (by omega), if_neg (by omega)]; exact c5
    · rw [if_neg (by omega), if_neg (by omega), if_neg (by omega), if_neg (by omega), if_neg (by omega), if_neg (by omega), if_neg (by omega)]; exact c6

theorem Lts.of_to {w : World} {N : Nat} {t : TypeId} {f : Nat → Value} {l : List Lt} (hR : w.rowIs N t (l.length * 7) f) (hO : LtTo w N f l l.length) : Lts w (some ⟨N, 0, none⟩) l := fun i c hi => by
  have hlt := (List.getElem?_eq_some_iff.1 hi).1
  obtain ⟨c0, c1, c2, c3, c4, c5, c6⟩ := hO i c hlt hi
  refine ⟨N, 0, rfl, ?_, ?_, ?_, ?_, ?_, ?_, ?_⟩
  · rw [Nat.zero_add, hR.cell (by omega), c0]
  · rw [Nat.zero_add, hR.cell (by omega), c1]
  · rw [Nat.zero_add, hR.cell (by omega), c2]
  · rw [Nat.zero_add, hR.cell (by omega), c3]
  · rw [Nat.zero_add, hR.cell (by omega), c4]
  · rw [Nat.zero_add, hR.cell (by omega), c5]
  · rw [Nat.zero_add, hR.cell (by omega), c6]

/-- It reads so, and all of it lies in blocks from B on. -/
def LtsA (w : World) (B : Nat) (a : Option Addr) (l : List Lt) : Prop := ∀ w2 : World, (∀ b, B ≤ b → b < w.heap.size → w2.heap[b]? = w.heap[b]?) → Lts w2 a l

theorem LtsA.here {w : World} {B : Nat} {a : Option Addr} {l : List Lt} (h : LtsA w B a l) : Lts w a l := h w fun _ _ _ => rfl

theorem LtsA.below {w w' : World} {B : Nat} {a : Option Addr} {l : List Lt} (h : LtsA w B a l) (hb : Below w.heap.size w w') : LtsA w' B a l := fun w2 h2 =>
  h w2 fun b h1 hl => (h2 b h1 (by have := hb.size; omega)).trans (hb.block b hl)

theorem LtsA.mono {w : World} {B B' : Nat} {a : Option Addr} {l : List Lt} (h : LtsA w B a l) (hb : B' ≤ B) : LtsA w B' a l := fun w2 h2 =>
  h w2 fun b h1 hl => h2 b (by omega) hl

theorem LtsA.setR {w : World} {B N : Nat} {a : Option Addr} {l : List Lt} (h : LtsA w B a l) (hN : N < B) (o : Nat) (v : Value) : LtsA (w.setCell ⟨N, o, none⟩ v) B a l := fun w2 h2 =>
  h w2 fun b h1 hl => (h2 b h1 (by simpa using hl)).trans (Below.heap_setCell w ⟨N, o, none⟩ v b (by simp; omega))

theorem LtsA.of_to {w : World} {N : Nat} {t : TypeId} {f : Nat → Value} {l : List Lt} (hR : w.rowIs N t (l.length * 7) f) (hO : LtTo w N f l l.length) : LtsA w N (some ⟨N, 0, none⟩) l := fun w2 h2 => by
  have hO2 : LtTo w2 N f l l.length := fun i c hi hc => by
    obtain ⟨c0, c1, c2, c3, c4, c5, c6⟩ := hO i c hi hc
    exact ⟨c0, c1, c2, c3, c4, c5, c6⟩
  exact Lts.of_to (hR.of_block (h2 N (Nat.le_refl _) hR.lt)) hO2

/-- Room for n of them at 'a', in a block from B on that may be written. -/
def RowLt (w : World) (B : Nat) (a : Option Addr) (n : Nat) : Prop :=
  n = 0 ∨ ∃ g m f, a = some ⟨g, 0, none⟩ ∧ B ≤ g ∧ n * 7 ≤ m ∧ w.rowIs g 91 m f

theorem RowLt.of_block {w w' : World} {B : Nat} {a : Option Addr} {n : Nat} (h : RowLt w B a n) (hs : ∀ b, InI a n b → w'.heap[b]? = w.heap[b]?) : RowLt w' B a n := by
  rcases h with h | ⟨g, m, f, rfl, hg, hm, hR⟩
  · exact .inl h
  · by_cases h0 : n = 0
    · exact .inl h0
    · exact .inr ⟨g, m, f, rfl, hg, hm, hR.of_block (hs g ⟨by omega, 0, none, rfl⟩)⟩

theorem RowLt.lt {w : World} {B : Nat} {a : Option Addr} {n b : Nat} (h : RowLt w B a n) (hb : InI a n b) : B ≤ b ∧ b < w.heap.size := by
  obtain ⟨h0, o, s, e⟩ := hb
  rcases h with h | ⟨g, m, f, rfl, hg, hm, hR⟩
  · omega
  · simp only [Option.some.injEq, Addr.mk.injEq] at e
    have := hR.lt
    omega

theorem RowLt.below {w w' : World} {B : Nat} {a : Option Addr} {n : Nat} (h : RowLt w B a n) (hb : Below w.heap.size w w') : RowLt w' B a n :=
  h.of_block fun b hi => hb.block b (h.lt hi).2

theorem RowLt.mono {w : World} {B B' : Nat} {a : Option Addr} {n : Nat} (h : RowLt w B a n) (hb : B' ≤ B) : RowLt w B' a n := by
  rcases h with h | ⟨g, m, f, e, hg, r⟩
  · exact .inl h
  · exact .inr ⟨g, m, f, e, by omega, r⟩

theorem Lts.of_block {w w' : World} {a : Option Addr} {fs : List Lt} (h : Lts w a fs) (hs : ∀ b, InI a fs.length b → w'.heap[b]? = w.heap[b]?) : Lts w' a fs := fun i s hi => by
  obtain ⟨b, off, e, h0, h1, h2, h3, h4, h5, h6⟩ := h i s hi
  have hlt := (List.getElem?_eq_some_iff.1 hi).1
  have hh := hs b ⟨by omega, off, none, e⟩
  exact ⟨b, off, e, (World.cell?_of_block (a := ⟨b, off + i * 7, none⟩) hh).trans h0, (World.cell?_of_block (a := ⟨b, off + i * 7 + 1, none⟩) hh).trans h1, (World.cell?_of_block (a := ⟨b, off + i * 7 + 2, none⟩) hh).trans h2, (World.cell?_of_block (a := ⟨b, off + i * 7 + 3, none⟩) hh).trans h3, (World.cell?_of_block (a := ⟨b, off + i * 7 + 4, none⟩) hh).trans h4, (World.cell?_of_block (a := ⟨b, off + i * 7 + 5, none⟩) hh).trans h5, (World.cell?_of_block (a := ⟨b, off + i * 7 + 6, none⟩) hh).trans h6⟩

theorem Lts.lt {w : World} {a : Option Addr} {fs : List Lt} (h : Lts w a fs) : ∀ b, InI a fs.length b → b < w.heap.size := fun b ⟨h0, o, s, e⟩ => by
  obtain ⟨x, hx⟩ := getLt h0
  obtain ⟨k, off, e2, h1, -⟩ := h 0 x hx
  have := lt_of_cell h1
  rw [e] at e2
  simp only [Option.some.injEq, Addr.mk.injEq] at e2
  omega

theorem Lts.setR {w : World} {B N : Nat} {a : Option Addr} {zs : List Lt} (h : Lts w a zs) (r : RowLt w B a zs.length) (hN : N < B) (o : Nat) (v : Value) : Lts (w.setCell ⟨N, o, none⟩ v) a zs :=
  h.of_block fun b hb => Below.heap_setCell w ⟨N, o, none⟩ v b (by have := (r.lt hb).1; simp; omega)

theorem RowLt.setR {w : World} {B N n : Nat} {a : Option Addr} (r : RowLt w B a n) (hN : N < B) (o : Nat) (v : Value) : RowLt (w.setCell ⟨N, o, none⟩ v) B a n :=
  r.of_block fun b hb => Below.heap_setCell w ⟨N, o, none⟩ v b (by have := (r.lt hb).1; simp; omega)

set_option maxHeartbeats 1000000 in
theorem eqLetter_same (c : Lt) (w : World) :
    Calls Try.prog 60 #[.agg #[.int .i64 c.to, .int .i64 c.fr, .int .i64 c.term, .bool c.asks, .int .i64 c.last, .int .i64 c.long, .bool c.grant], .agg #[.int .i64 c.to, .int .i64 c.fr, .int .i64 c.term, .bool c.asks, .int .i64 c.last, .int .i64 c.long, .bool c.grant]] w fun r w' => r = .returned (.bool true) ∧ Below w.heap.size w w' := by
  have b3 : (c.asks != c.asks) = false := by simp
  have b3' : (!(c.asks == c.asks)) = false := by simp
  have b6 : (c.grant != c.grant) = false := by simp
  have b6' : (!(c.grant == c.grant)) = false := by simp
  have HB : ∀ x y, Below w.heap.size w ((w.alloc x).alloc y) := fun _ _ => ((Below.refl _ _).alloc (Nat.le_refl _) _).alloc (by simp) _
  go_enter Try.func60, Try.ntmps60
  go_wp2
  go_ret
  exact ⟨rfl, HB _ _⟩

set_option maxHeartbeats 1000000 in
theorem eqLetterS_same (a a2 : Option Addr) (c c2 : Nat) (l : List Lt) (w : World) (hx : Lts w a l) (hy : Lts w a2 l) (hl : l.length ≤ maxLen) :
    Calls Try.prog 38 #[.slice a l.length c, .slice a2 l.length c2] w fun e w' => e = .returned (.bool true) ∧ Below w.heap.size w w' := by
  unfold maxLen at hl
  go_enter Try.func38, Try.ntmps38
  go_wp2
  go_loopw [5] (fun i wr => ∃ k : Nat, k ≤ l.length ∧ i = .int .i64 k ∧ Below w.heap.size w wr) (fun i _ => l.length - (intOf i).toNat)
  case atStart => exact ⟨0, Nat.zero_le _, rfl, Below.refl _ _⟩
  case round =>
    obtain ⟨k, hk, rfl, hB⟩ := hrel
    by_cases hlt : k < l.length
    · obtain ⟨b, hkb⟩ := getLt hlt
      obtain ⟨kb, ob, rfl, hbt⟩ := (hx.below hB) k b hkb
      obtain ⟨c0, c1, c2, c3, c4, c5, c6⟩ := hbt
      obtain ⟨kb2, ob2, rfl, hbt2⟩ := (hy.below hB) k b hkb
      obtain ⟨d0, d1, d2, d3, d4, d5, d6⟩ := hbt2
      clear hx hy hkb
      go_wp2
      go_region_with (go_at_call 60; refine (eqLetter_same _  _ ).mono ?_; rintro r w1 ⟨rfl, hB1⟩)
      all_goals
        go_wp2
        go_roundw
        case rel => exact ⟨k + 1, by omega, by go_num, hB.drew.trans (hB1.mono (by simpa using hB.size))⟩
        case measure => simp [intOf]; omega
    · go_wp2
      go_ret
      exact ⟨rfl, hB⟩

end Go.Proofs.Ythbhokpjedndaaa
