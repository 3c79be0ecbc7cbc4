/-
  A new election, gathered server by server: their row and their logs lie apart, in memory of the call's own.
-/
import Derived.Test.YthbhokpjedndaaaElcM
import Derived.Test.YthbhokpjedndaaaAppZ
import Derived.Test.YthbhokpjedndaaaQOutI
import Derived.Test.YthbhokpjedndaaaElM
namespace Go.Proofs.Ythbhokpjedndaaa
open Go.RowKit

/-- A new server's cells, its log at this place. -/
def svC (q : QI) : List Value := [.int .i64 10, .int .i64 (-1), .bool false, .bool false, .slice none 0 0, q.val]
def svN (l : List Int) : Sv := ⟨10, -1, false, false, [], l⟩
theorem svC_one (q : QI) : ∀ u ∈ svC q, u.oneCell' = true := fun u hu => by simp [svC] at hu; rcases hu with rfl | rfl | rfl | rfl | rfl | rfl <;> rfl

def okLg (l : List Int) : Bool := goodE l && decide (lastZ l ≤ 10)
def okNE (L : List (List Int)) : Bool := L.all okLg && inB L.length 1 5
def newEl (L : List (List Int)) : El := if okNE L = true then ⟨L.map svN, [], []⟩ else ⟨[], [], []⟩

structure SvSt (B S : Nat) (w wr : World) (v : Value) (qs : List QI) : Prop where
  own : wr.ownsRow B 59 6 v qs.length (qs.flatMap svC)
  ints : QIn wr B qs
  c0 : wr.cell? ⟨S, 0, none⟩ = some v
  c1 : wr.cell? ⟨S, 1, none⟩ = some (.slice none 0 0)
  c2 : wr.cell? ⟨S, 2, none⟩ = some (.slice none 0 0)
  fr : ∀ o, wr.frozen? ⟨S, o, none⟩ = false
  bel : Below w.heap.size w wr
  SB : S < B
  wS : w.heap.size ≤ S
  Bw : B ≤ wr.heap.size

theorem SvSt.below {B S : Nat} {w wr u : World} {v : Value} {qs : List QI} (h : SvSt B S w wr v qs) (hb : Below wr.heap.size wr u) : SvSt B S w u v qs :=
  ⟨ownsZ_below h.own hb, h.ints.below hb, celB hb h.c0, celB hb h.c1, celB hb h.c2, fun o => frzB hb (lt_of_cell h.c0) (h.fr o), h.bel.trans (hb.mono h.bel.size), h.SB, h.wS, by have := h.Bw; have := hb.size; omega⟩

theorem SvSt.step {B S : Nat} {w wr x w5 : World} {v : Value} {qs : List QI} {q : QI} {g cap : Nat} (h : SvSt B S w wr v qs) (hx : Below wr.heap.size wr x) (hi : Ints x q.a q.zs) (hr : RowI x wr.heap.size q.a q.zs.length)
    (hgrow : x.grownBy w5 v.ownBlock) (hown : w5.ownsRow B 59 6 (.slice (some ⟨g, 0, none⟩) (qs.length + 1) cap) (qs.length + 1) (qs.flatMap svC ++ svC q)) (hat : v.ownBlock = some g ∨ g = x.heap.size) :
    SvSt B S w (w5.setCell ⟨S, 0, none⟩ (.slice (some ⟨g, 0, none⟩) (qs.length + 1) cap)) (.slice (some ⟨g, 0, none⟩) (qs.length + 1) cap) (qs ++ [q]) := by
  have hBw := h.Bw
  have hSB := h.SB
  have hwS := h.wS
  have hsz := hx.size
  have hvb : ∀ b, v.ownBlock = some b → B ≤ b ∧ b < wr.heap.size := fun b hb => h.own.lt b hb
  have hgB : B ≤ g := by rcases hat with e | e; exact (hvb g e).1; omega
  -- what lies elsewhere stays
  have blk : ∀ b, b < x.heap.size → v.ownBlock ≠ some b → b ≠ S → (w5.setCell ⟨S, 0, none⟩ (.slice (some ⟨g, 0, none⟩) (qs.length + 1) cap)).heap[b]? = x.heap[b]? := fun b hb hv hs =>
    (Below.heap_setCell w5 ⟨S, 0, none⟩ _ b (by simpa using hs)).trans (hgrow.block b hb (fun e => hv e.symm))
  have sblk : S < x.heap.size ∧ v.ownBlock ≠ some S := ⟨by omega, fun e => by have := (hvb S e).1; omega⟩
  have ho := (h.below hx)
  have hold : ∀ p ∈ qs, ∀ b, InI p.a p.zs.length b → b < wr.heap.size ∧ v.ownBlock ≠ some b ∧ b ≠ S := fun p hp b hb => by
    have hrow := h.ints.row p hp
    refine ⟨(hrow.lt hb).2, fun e => ?_, fun e => by have := (hrow.lt hb).1; omega⟩
    have hpos : 0 < qs.length := List.length_pos_of_mem hp
    obtain ⟨g', cap', f', hv', -, -, hR', -⟩ := row_of_ownsZ h.own hpos
    rw [hv'] at e
    have e2 : g' = b := by simpa [Value.ownBlock] using e
    subst e2
    obtain ⟨t, m, f, hR, ht⟩ := hrow.typ (ts := [3]) (by simp) g' hb
    have := row_type hR' hR
    simp at ht
    rw [ht] at this
    exact absurd this (by decide)
  have hnew : ∀ b, InI q.a q.zs.length b → b < x.heap.size ∧ v.ownBlock ≠ some b ∧ b ≠ S := fun b hb => by
    have := hr.lt hb
    exact ⟨this.2, fun e => by have := (hvb b e).2; omega, by omega⟩
  refine ⟨?_, ?_, ?_, ?_, ?_, ?_, ?_, hSB, hwS, ?_⟩
  · have e : (qs ++ [q]).flatMap svC = qs.flatMap svC ++ svC q := by simp
    rw [e, List.length_append, List.length_singleton]
    obtain ⟨o1, o2⟩ := hown
    refine ⟨o1, o2.imp id fun ⟨g', cap', cur, hv, hg, hh, r⟩ => ⟨g', cap', cur, hv, hg, ?_, r⟩⟩
    simp only [Value.slice.injEq, Option.some.injEq, Addr.mk.injEq] at hv
    exact (Below.heap_setCell w5 ⟨S, 0, none⟩ _ g' (by simp; omega)).trans hh
  · have hq0 : QIn (w5.setCell ⟨S, 0, none⟩ (.slice (some ⟨g, 0, none⟩) (qs.length + 1) cap)) B qs :=
      ⟨fun p hp => (h.ints.ints p hp).of_block fun b hb => by obtain ⟨h1, h2, h3⟩ := hold p hp b hb; exact (blk b (by omega) h2 h3).trans (hx.block b h1),
       fun p hp => (h.ints.row p hp).of_block fun b hb => by obtain ⟨h1, h2, h3⟩ := hold p hp b hb; exact (blk b (by omega) h2 h3).trans (hx.block b h1), h.ints.apart⟩
    exact hq0.snoc (N := wr.heap.size) (fun p hp b hb => (hold p hp b hb).1) hBw
      (hi.of_block fun b hb => by obtain ⟨h1, h2, h3⟩ := hnew b hb; exact blk b h1 h2 h3) (hr.of_block fun b hb => by obtain ⟨h1, h2, h3⟩ := hnew b hb; exact blk b h1 h2 h3)
  · have hc : w5.cell? ⟨S, 0, none⟩ = some v := (World.cell?_of_block (a := ⟨S, 0, none⟩) (hgrow.block S sblk.1 (fun e => sblk.2 e.symm))).trans ho.c0
    simp [go_sem, hc]
  · have hc : w5.cell? ⟨S, 1, none⟩ = some (.slice none 0 0) := (World.cell?_of_block (a := ⟨S, 1, none⟩) (hgrow.block S sblk.1 (fun e => sblk.2 e.symm))).trans ho.c1
    simp [go_sem, hc]
  · have hc : w5.cell? ⟨S, 2, none⟩ = some (.slice none 0 0) := (World.cell?_of_block (a := ⟨S, 2, none⟩) (hgrow.block S sblk.1 (fun e => sblk.2 e.symm))).trans ho.c2
    simp [go_sem, hc]
  · intro o
    have hf : w5.frozen? ⟨S, o, none⟩ = false := (World.frozen?_of_block (a := ⟨S, o, none⟩) (hgrow.block S sblk.1 (fun e => sblk.2 e.symm))).trans (ho.fr o)
    simp [go_sem, hf]
  · exact ((h.bel.trans (hx.mono h.bel.size)).grown hgrow (by have := h.bel.size; omega) (fun b hb => by have := (hvb b hb).1; omega)).setCell hwS _
  · have := hgrow.size
    simp; omega

/-- What is gathered is the new election. -/
theorem SvSt.done {B S : Nat} {w wr : World} {a : Option Addr} {c : Nat} {qs : List QI} {L : List (List Int)} (h : SvSt B S w wr (.slice a qs.length c) qs) (e : qs.map QI.zs = L) :
    ElO wr B ⟨L.map svN, [], []⟩ a none none (fun _ => none) (fun j => (qs.getD j ⟨[], none, 0⟩).a) (fun _ => 0) (fun j => (qs.getD j ⟨[], none, 0⟩).c) := by
  have hget : ∀ j x, (L.map svN)[j]? = some x → ∃ q, qs[j]? = some q ∧ x = svN q.zs ∧ qs.getD j ⟨[], none, 0⟩ = q := fun j x hj => by
    rw [← e] at hj
    simp only [List.getElem?_map, Option.map_eq_some_iff] at hj
    obtain ⟨l, ⟨q, hq, rfl⟩, rfl⟩ := hj
    exact ⟨q, hq, rfl, by simp [List.getD_eq_getElem?_getD, hq]⟩
  have hlen : (L.map svN).length = qs.length := by rw [← e]; simp
  refine ⟨?_, ⟨fun j x b hj hb => ?_, fun j x b hj hb => ?_, fun j x j' x' b hj hj' hne hb => ?_, fun j x j' x' b hj hj' hb => ?_, fun j x j' x' b hj hj' hne hb => ?_⟩, Lts.nil _ _, .inl rfl, Vts.nil _ _, .inl rfl⟩
  · by_cases h0 : qs.length = 0
    · left
      exact List.eq_nil_of_length_eq_zero (by rw [hlen]; exact h0)
    · obtain ⟨g, cap, f, hv, hg, hcap, hrow, hx⟩ := row_of_ownsZ h.own (by omega)
      simp only [Value.slice.injEq] at hv
      obtain ⟨rfl, -, rfl⟩ := hv
      refine .inr ⟨g, _, f, rfl, hg, by show (L.map svN).length * 6 ≤ _; rw [hlen]; exact Nat.mul_le_mul_right 6 hcap, hrow, fun j x hj => ?_⟩
      obtain ⟨q, hq, rfl, ed⟩ := hget j x hj
      have hlt := (List.getElem?_eq_some_iff.1 hq).1
      have cell : ∀ r, r < 6 → (svC q)[r]? = some (f (j * 6 + r)) := fun r hr => by
        have := hx (j * 6 + r) (by omega)
        rwa [flatZ_get (C := svC) (s := 6) (fun _ => rfl) qs j r q hq hr] at this
      have m := List.mem_of_getElem? hq
      refine ⟨?_, ?_, ?_, ?_, ?_, ?_, ?_, ?_, ?_, ?_⟩
      · exact (Option.some.inj (cell 0 (by omega))).symm
      · exact (Option.some.inj (cell 1 (by omega))).symm
      · exact (Option.some.inj (cell 2 (by omega))).symm
      · exact (Option.some.inj (cell 3 (by omega))).symm
      · exact (Option.some.inj (cell 4 (by omega))).symm
      · simp only [ed]; exact (Option.some.inj (cell 5 (by omega))).symm
      · exact Ints.nil _ _
      · exact .inl rfl
      · simp only [ed]; exact h.ints.ints q m
      · simp only [ed]; exact h.ints.row q m
  · obtain ⟨q, hq, rfl, ed⟩ := hget j x hj
    exact absurd hb.1 (by simp [svN])
  · obtain ⟨q, hq, rfl, ed⟩ := hget j x hj
    intro hr
    simp only [ed] at hb
    have m := List.mem_of_getElem? hq
    obtain ⟨t, m', f', hR, ht⟩ := (h.ints.row q m).typ (ts := [3]) (by simp) b hb
    have hpos : 0 < qs.length := List.length_pos_of_mem m
    obtain ⟨g, cap, f, hv, -, -, hR', -⟩ := row_of_ownsZ h.own hpos
    obtain ⟨-, o, s, e3⟩ := hr
    simp only [Value.slice.injEq] at hv
    rw [hv.1] at e3
    simp only [Option.some.injEq, Addr.mk.injEq] at e3
    obtain ⟨rfl, -⟩ := e3
    have := row_type hR' hR
    simp at ht
    rw [ht] at this
    exact absurd this (by decide)
  · obtain ⟨q, hq, rfl, ed⟩ := hget j x hj
    exact absurd hb.1 (by simp [svN])
  · obtain ⟨q, hq, rfl, ed⟩ := hget j x hj
    exact absurd hb.1 (by simp [svN])
  · obtain ⟨q, hq, rfl, ed⟩ := hget j x hj
    obtain ⟨q', hq', rfl, ed'⟩ := hget j' x' hj'
    simp only [ed] at hb
    simp only [ed']
    exact pair_apart h.ints.apart hq hq' hne hb

theorem newEl_zero (w : World) (B : Nat) : ElO w B ⟨[], [], []⟩ none none none (fun _ => none) (fun _ => none) (fun _ => 0) (fun _ => 0) :=
  ⟨.inl rfl, ⟨fun j c b hj => by simp at hj, fun j c b hj => by simp at hj, fun j c j' c' b hj => by simp at hj, fun j c j' c' b hj => by simp at hj, fun j c j' c' b hj => by simp at hj⟩, Lts.nil _ _, .inl rfl, Vts.nil _ _, .inl rfl⟩

theorem SvK_le {l : List Sv} {t : Nat} (h : ∀ c, c ∈ l → SvT c ≤ t) (k : Nat) : ∀ i, SvK l k i ≤ k + t * i
  | 0 => by simp [SvK]
  | i + 1 => by
    have := SvK_le h k i
    rw [SvK, Nat.mul_add]
    cases e : l[i]? with
    | none => simp only; omega
    | some c =>
      have := h c (List.mem_of_getElem? e)
      simp only; omega

theorem newEl_small (L : List (List Int)) : ElS (newEl L) ∧ ElL (newEl L) := by
  unfold newEl
  cases h : okNE L with
  | false => exact ⟨⟨by simp, by simp, by simp, fun c hc => by simp at hc, fun k hk => by simp [SvK]; omega⟩, ⟨by simp, by simp, by simp⟩⟩
  | true =>
    unfold okNE at h
    simp only [Bool.and_eq_true, List.all_eq_true, inB_t] at h
    obtain ⟨h1, h2⟩ := h
    have hl : L.length ≤ 5 := by omega
    have hlg : ∀ c, c ∈ L.map svN → c.got.length = 0 ∧ c.log.length ≤ 30 := fun c hc => by
      obtain ⟨l, hl, rfl⟩ := List.mem_map.1 hc
      have := h1 l hl
      simp only [okLg, Bool.and_eq_true] at this
      exact ⟨rfl, (goodE_t.1 this.1).1⟩
    have hk := fun k => SvK_le (l := L.map svN) (t := 34) (fun c hc => by obtain ⟨e1, e2⟩ := hlg c hc; unfold SvT; omega) k (L.map svN).length
    simp only [if_true]
    refine ⟨⟨by simp; omega, by simp, by simp, fun c hc => by obtain ⟨e1, e2⟩ := hlg c hc; unfold maxLen; omega, fun k hk1 => ?_⟩, ⟨by simp; unfold maxLen; omega, by simp, by simp⟩⟩
    have := hk k
    simp only [List.length_map] at this ⊢
    simp
    omega

end Go.Proofs.Ythbhokpjedndaaa
