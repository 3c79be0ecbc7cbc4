/-
  Lists of lists in memory of a call's own: how they are gathered, copied (toIntSS), marked and looked at again (markIntSS, heldIntSS).
-/
import Derived.Test.YtekjpbfmiebigaaDoorZan
import Derived.Test.YtekjpbfmiebigaaDoorIss
namespace Go.Proofs.YtekjpbfmiebigaaDoor
open Go.RowKit

/-- The row of lists, and the lists, each in a block of its own. -/
structure OutQ (w : World) (B : Nat) (a : Option Addr) (qs : List QI) : Prop where
  row : qs.length = 0 ∨ ∃ g m f, a = some ⟨g, 0, none⟩ ∧ B ≤ g ∧ w.rowIs g 22 m f ∧ qs.length ≤ m ∧ ∀ (i : Nat) (q : QI), qs[i]? = some q → f i = q.val
  ints : QIn w B qs

/-- The blocks of the lists. -/
def InQ (qs : List QI) (b : Nat) : Prop := ∃ q ∈ qs, InI q.a q.zs.length b
def InO (a : Option Addr) (qs : List QI) (b : Nat) : Prop := InQ qs b ∨ InI a qs.length b

theorem OutQ.lt {w : World} {B : Nat} {a : Option Addr} {qs : List QI} (h : OutQ w B a qs) {b : Nat} (hb : InO a qs b) : B ≤ b ∧ b < w.heap.size := by
  rcases hb with ⟨q, hq, hi⟩ | ⟨h0, o, s, e⟩
  · exact (h.ints.row q hq).lt hi
  · rcases h.row with h1 | ⟨g, m, f, rfl, hg, hR, -, -⟩
    · omega
    · simp only [Option.some.injEq, Addr.mk.injEq] at e
      have := hR.lt
      omega

theorem OutQ.of_block {w w' : World} {B : Nat} {a : Option Addr} {qs : List QI} (h : OutQ w B a qs) (hs : ∀ b, InO a qs b → w'.heap[b]? = w.heap[b]?) : OutQ w' B a qs := by
  refine ⟨?_, ⟨fun q hq => (h.ints.ints q hq).of_block fun b hb => hs b (.inl ⟨q, hq, hb⟩), fun q hq => (h.ints.row q hq).of_block fun b hb => hs b (.inl ⟨q, hq, hb⟩), h.ints.apart⟩⟩
  rcases h.row with h1 | ⟨g, m, f, rfl, hg, hR, hm, hf⟩
  · exact .inl h1
  · by_cases h0 : qs.length = 0
    · exact .inl h0
    · exact .inr ⟨g, m, f, rfl, hg, hR.of_block (hs g (.inr ⟨by omega, 0, none, rfl⟩)), hm, hf⟩

theorem OutQ.below {w w' : World} {B : Nat} {a : Option Addr} {qs : List QI} (h : OutQ w B a qs) (hb : Below w.heap.size w w') : OutQ w' B a qs :=
  h.of_block fun b hi => hb.block b (h.lt hi).2

theorem OutQ.intss {w : World} {B : Nat} {a : Option Addr} {qs : List QI} (h : OutQ w B a qs) (hm : ∀ zs ∈ qs.map QI.zs, zs.length ≤ maxLen) : Intss w a (qs.map QI.zs) := fun i zs hi => by
  rw [List.getElem?_map, Option.map_eq_some_iff] at hi
  obtain ⟨q, hq, rfl⟩ := hi
  have hlt := (List.getElem?_eq_some_iff.1 hq).1
  have hmem := List.mem_of_getElem? hq
  rcases h.row with h1 | ⟨g, m, f, rfl, hg, hR, hml, hf⟩
  · omega
  · exact ⟨g, 0, q.a, q.c, rfl, by rw [Nat.zero_add, hR.cell (by omega), hf i q hq], h.ints.ints q hmem, hm _ (List.mem_map.2 ⟨q, hmem, rfl⟩)⟩

/-- A row of numbers is no row of lists. -/
theorem row_types {w : World} {B g m n : Nat} {f : Nat → Value} {a : Option Addr} (h : w.rowIs g 22 m f) (h' : RowI w B a n) : ¬ InI a n g := fun ⟨h0, o, s, e⟩ => by
  rcases h' with h1 | ⟨g', m', f', rfl, -, -, cs', hh', -⟩
  · omega
  · simp only [Option.some.injEq, Addr.mk.injEq] at e
    obtain ⟨rfl, -, -⟩ := e
    obtain ⟨cs, hh, -⟩ := h
    rw [hh] at hh'
    simp at hh'

/-- While lists are gathered. -/
structure LSt (w wr : World) (v : Value) (qs : List QI) : Prop where
  own : wr.ownsRow w.heap.size 22 1 v qs.length (qs.map QI.val)
  ints : QIn wr w.heap.size qs
  bel : Below w.heap.size w wr

theorem lst_start (w : World) : LSt w w (.slice none 0 0) [] := ⟨World.ownsRow_nil _ _ _ _, QIn.nil _ _, Below.refl _ _⟩

theorem lst_below {w wr u : World} {v : Value} {qs : List QI} (h : LSt w wr v qs) (hb : Below wr.heap.size wr u) : LSt w u v qs :=
  ⟨ownsZ_below h.own hb, h.ints.below hb, h.bel.trans (hb.mono h.bel.size)⟩

theorem own_types6 {w : World} {B B' n m : Nat} {v : Value} {xs : List Value} {a : Option Addr} (h : w.ownsRow B 22 1 v n xs) (h' : RowI w B' a m) {b : Nat} (hb : InI a m b) : v.ownBlock ≠ some b := fun e => by
  obtain ⟨-, ⟨rfl, -⟩ | ⟨g, cap, cur, rfl, -, hh, -⟩⟩ := h
  · simp [Value.ownBlock] at e
  · simp only [Value.ownBlock, Option.some.injEq] at e
    subst e
    obtain ⟨h0, o, s, rfl⟩ := hb
    rcases h' with h1 | ⟨g', m', f', e', -, -, cs', hh', -⟩
    · omega
    · simp only [Option.some.injEq, Addr.mk.injEq] at e'
      obtain ⟨rfl, -, -⟩ := e'
      rw [hh] at hh'
      simp at hh'

/-- One list more. -/
theorem lst_step {w wr u w6 : World} {v : Value} {qs : List QI} {q : QI} {g2 cap2 : Nat} (h : LSt w wr v qs) (hu : Below wr.heap.size wr u)
    (hqi : Ints u q.a q.zs) (hqr : RowI u wr.heap.size q.a q.zs.length)
    (hgrow : u.grownBy w6 v.ownBlock) (hown : w6.ownsRow w.heap.size 22 1 (.slice (some ⟨g2, 0, none⟩) (qs.length + 1) cap2) (qs.length + 1) (qs.map QI.val ++ [q.val])) :
    LSt w w6 (.slice (some ⟨g2, 0, none⟩) (qs.length + 1) cap2) (qs ++ [q]) := by
  have hU := lst_below h hu
  have hbs := h.bel.size
  have h2 : QIn u w.heap.size (qs ++ [q]) := hU.ints.snoc (N := wr.heap.size) (fun p hp b hb => ((h.ints.row p hp).lt hb).2) hbs hqi hqr
  have same : ∀ p ∈ qs ++ [q], ∀ b, InI p.a p.zs.length b → w6.heap[b]? = u.heap[b]? := fun p hp b hb => by
    refine hgrow.block b ((h2.row p hp).lt hb).2 (fun e => ?_)
    exact own_types6 hU.own (h2.row p hp) hb e.symm
  refine ⟨?_, ⟨fun p hp => (h2.ints p hp).of_block (same p hp), fun p hp => (h2.row p hp).of_block (same p hp), h2.apart⟩, hU.bel.grown hgrow (by have := hU.bel.size; omega) (fun k hk => (hU.own.lt k hk).1)⟩
  rw [List.map_append, List.length_append, List.length_singleton]
  exact hown

theorem lst_out {w wr : World} {a : Option Addr} {c : Nat} {qs : List QI} (h : LSt w wr (.slice a qs.length c) qs) : OutQ wr w.heap.size a qs := by
  refine ⟨?_, h.ints⟩
  by_cases h0 : qs.length = 0
  · exact .inl h0
  · obtain ⟨g, cap, f, hv, hg, hn, hR, hx⟩ := row_of_ownsZ h.own (by omega)
    simp only [Value.slice.injEq] at hv
    obtain ⟨rfl, -, rfl⟩ := hv
    rw [Nat.mul_one] at hR
    refine .inr ⟨g, _, f, rfl, hg, hR, hn, fun i q hq => ?_⟩
    have hlt := (List.getElem?_eq_some_iff.1 hq).1
    have := hx i (by omega)
    rw [List.getElem?_map, hq] at this
    exact (Option.some.inj this).symm

/-- What a function answers that gathers lists. -/
def LAns (w : World) (L : List (List Int)) (ok : Bool) (r : Ending) (w' : World) : Prop :=
  ∃ a c, ∃ qs : List QI, qs.map QI.zs = L ∧ r = .returned (.tuple #[.slice a qs.length c, .bool ok]) ∧ OutQ w' w.heap.size a qs ∧ Below w.heap.size w w'

/-- What a function answers that gathers lists and tells no more. -/
def LLAns (w : World) (L : List (List Int)) (r : Ending) (w' : World) : Prop := ∃ v, ∃ qs : List QI, r = .returned v ∧ qs.map QI.zs = L ∧ LSt w w' v qs

theorem lans_of {w wr : World} {v : Value} {qs : List QI} {L : List (List Int)} {ok : Bool} (h : LSt w wr v qs) (e : qs.map QI.zs = L) : LAns w L ok (.returned (.tuple #[v, .bool ok])) wr := by
  obtain ⟨a, c, rfl, -, -⟩ := ownsZ_cap h.own
  exact ⟨a, c, qs, e, rfl, lst_out h, h.bel⟩

theorem Tryd.infoInts2 : (Tryd.prog.info? 22).map (fun i => (i.zero, i.size, i.bytes)) = some (some (.slice none 0 0), 1, 24) := Tryd.infoInts

/-- How many numbers the first i lists have. -/
def qTo (qs : List QI) : Nat → Nat
  | 0 => 0
  | i + 1 => qTo qs i + ((qs[i]?).map fun q => q.zs.length).getD 0
theorem qTo_succ {qs : List QI} {i : Nat} {q : QI} (h : qs[i]? = some q) : qTo qs (i + 1) = qTo qs i + q.zs.length := by simp [qTo, h]
theorem qTo_mono (qs : List QI) : ∀ {i j : Nat}, i ≤ j → qTo qs i ≤ qTo qs j
  | i, 0, h => by obtain rfl : i = 0 := by omega
                  exact Nat.le_refl _
  | i, j + 1, h => by
    by_cases e : i = j + 1
    · subst e; exact Nat.le_refl _
    · exact Nat.le_trans (qTo_mono qs (i := i) (j := j) (by omega)) (by simp [qTo])

/-- The first j lists are marked from k on. -/
def markedTo (w : World) (k : Nat) (qs : List QI) (j : Nat) : Prop := ∀ (i : Nat) (q : QI), i < j → qs[i]? = some q → Ints w q.a (markZ (k + qTo qs i) q.zs.length)

theorem pair_apart {qs : List QI} (h : qs.Pairwise fun p q => ∀ b, InI p.a p.zs.length b → ¬ InI q.a q.zs.length b) {i j : Nat} {p q : QI} (hi : qs[i]? = some p) (hj : qs[j]? = some q) (hne : i ≠ j) {b : Nat} (hb : InI p.a p.zs.length b) : ¬ InI q.a q.zs.length b := by
  obtain ⟨li, ei⟩ := List.getElem?_eq_some_iff.1 hi
  obtain ⟨lj, ej⟩ := List.getElem?_eq_some_iff.1 hj
  subst ei ej
  rcases Nat.lt_or_gt_of_ne hne with e | e
  · exact (List.pairwise_iff_getElem.1 h) i j li lj e b hb
  · exact fun hq => (List.pairwise_iff_getElem.1 h) j i lj li e b hq hb

end Go.Proofs.YtekjpbfmiebigaaDoor
