/-
  A new raft, gathered peer by peer: their row and their lists lie apart, in memory of the call's own. Made by mkranew.py.
-/
import Derived.Test.YtglncbhbeikclaaRftM
import Derived.Test.YtglncbhbeikclaaAppZ
import Derived.Test.YtglncbhbeikclaaQOutI
import Derived.Test.YtglncbhbeikclaaGnM
namespace Go.Proofs.Ytglncbhbeikclaa
open Go.RowKit

/-- A new peer's cells, its Match at this place. -/
def peC (q : QI) : List Value := [.int .i64 0, .bool false, .slice none 0 0, .int .i64 0, q.val]
def peN (l : List Int) : Pe := ⟨0, false, [], 0, l⟩
theorem peC_one (q : QI) : ∀ u ∈ peC q, u.oneCell' = true := fun u hu => by simp [peC] at hu; rcases hu with rfl | rfl | rfl | rfl | rfl <;> rfl

def newRa (z : Int) : Ra := if inB z 1 5 = true then ⟨(List.replicate z.toNat (List.replicate z.toNat 0)).map peN, []⟩ else ⟨[], []⟩

structure PeSt (B S : Nat) (w wr : World) (v : Value) (qs : List QI) : Prop where
  own : wr.ownsRow B 63 5 v qs.length (qs.flatMap peC)
  ints : QIn wr B qs
  c0 : wr.cell? ⟨S, 0, none⟩ = some v
  c1 : wr.cell? ⟨S, 1, none⟩ = some (.slice none 0 0)
  fr : ∀ o, wr.frozen? ⟨S, o, none⟩ = false
  bel : Below w.heap.size w wr
  SB : S < B
  wS : w.heap.size ≤ S
  Bw : B ≤ wr.heap.size

theorem PeSt.below {B S : Nat} {w wr u : World} {v : Value} {qs : List QI} (h : PeSt B S w wr v qs) (hb : Below wr.heap.size wr u) : PeSt B S w u v qs :=
  ⟨ownsZ_below h.own hb, h.ints.below hb, celB hb h.c0, celB hb h.c1, fun o => frzB hb (lt_of_cell h.c0) (h.fr o), h.bel.trans (hb.mono h.bel.size), h.SB, h.wS, by have := h.Bw; have := hb.size; omega⟩

theorem PeSt.step {B S : Nat} {w wr x w5 : World} {v : Value} {qs : List QI} {q : QI} {g cap : Nat} (h : PeSt B S w wr v qs) (hx : Below wr.heap.size wr x) (hi : Ints x q.a q.zs) (hr : RowI x wr.heap.size q.a q.zs.length)
    (hgrow : x.grownBy w5 v.ownBlock) (hown : w5.ownsRow B 63 5 (.slice (some ⟨g, 0, none⟩) (qs.length + 1) cap) (qs.length + 1) (qs.flatMap peC ++ peC q)) (hat : v.ownBlock = some g ∨ g = x.heap.size) :
    PeSt B S w (w5.setCell ⟨S, 0, none⟩ (.slice (some ⟨g, 0, none⟩) (qs.length + 1) cap)) (.slice (some ⟨g, 0, none⟩) (qs.length + 1) cap) (qs ++ [q]) := by
  have hBw := h.Bw
  have hSB := h.SB
  have hwS := h.wS
  have hsz := hx.size
  have hvb : ∀ b, v.ownBlock = some b → B ≤ b ∧ b < wr.heap.size := fun b hb => h.own.lt b hb
  have hgB : B ≤ g := by rcases hat with e | e; exact (hvb g e).1; omega
  -- what lies elsewhere stays
  have blk : ∀ b, b < x.heap.size → v.ownBlock ≠ some b → b ≠ S → (w5.setCell ⟨S, 0, none⟩ (.slice (some ⟨g, 0, none⟩) (qs.length + 1) cap)).heap[b]? = x.heap[b]? := fun b hb hv hs =>
    (Below.heap_setCell w5 ⟨S, 0, none⟩ _ b (by simpa using hs)).trans (hgrow.block b hb (fun e => hv e.symm))
  have sblk : S < x.heap.size ∧ v.ownBlock ≠ some S := ⟨by omega, fun e => by have := (hvb S e).1; omega⟩
  have ho := (h.below hx)
  have hold : ∀ p ∈ qs, ∀ b, InI p.a p.zs.length b → b < wr.heap.size ∧ v.ownBlock ≠ some b ∧ b ≠ S := fun p hp b hb => by
    have hrow := h.ints.row p hp
    refine ⟨(hrow.lt hb).2, fun e => ?_, fun e => by have := (hrow.lt hb).1; omega⟩
    have hpos : 0 < qs.length := List.length_pos_of_mem hp
    obtain ⟨g', cap', f', hv', -, -, hR', -⟩ := row_of_ownsZ h.own hpos
    rw [hv'] at e
    have e2 : g' = b := by simpa [Value.ownBlock] using e
    subst e2
    obtain ⟨t, m, f, hR, ht⟩ := hrow.typ (ts := [3]) (by simp) g' hb
    have := row_type hR' hR
    simp at ht
    rw [ht] at this
    exact absurd this (by decide)
  have hnew : ∀ b, InI q.a q.zs.length b → b < x.heap.size ∧ v.ownBlock ≠ some b ∧ b ≠ S := fun b hb => by
    have := hr.lt hb
    exact ⟨this.2, fun e => by have := (hvb b e).2; omega, by omega⟩
  refine ⟨?_, ?_, ?_, ?_, ?_, ?_, hSB, hwS, ?_⟩
  · have e : (qs ++ [q]).flatMap peC = qs.flatMap peC ++ peC q := by simp
    rw [e, List.length_append, List.length_singleton]
    obtain ⟨o1, o2⟩ := hown
    refine ⟨o1, o2.imp id fun ⟨g', cap', cur, hv, hg, hh, r⟩ => ⟨g', cap', cur, hv, hg, ?_, r⟩⟩
    simp only [Value.slice.injEq, Option.some.injEq, Addr.mk.injEq] at hv
    exact (Below.heap_setCell w5 ⟨S, 0, none⟩ _ g' (by simp; omega)).trans hh
  · have hq0 : QIn (w5.setCell ⟨S, 0, none⟩ (.slice (some ⟨g, 0, none⟩) (qs.length + 1) cap)) B qs :=
      ⟨fun p hp => (h.ints.ints p hp).of_block fun b hb => by obtain ⟨h1, h2, h3⟩ := hold p hp b hb; exact (blk b (by omega) h2 h3).trans (hx.block b h1),
       fun p hp => (h.ints.row p hp).of_block fun b hb => by obtain ⟨h1, h2, h3⟩ := hold p hp b hb; exact (blk b (by omega) h2 h3).trans (hx.block b h1), h.ints.apart⟩
    exact hq0.snoc (N := wr.heap.size) (fun p hp b hb => (hold p hp b hb).1) hBw
      (hi.of_block fun b hb => by obtain ⟨h1, h2, h3⟩ := hnew b hb; exact blk b h1 h2 h3) (hr.of_block fun b hb => by obtain ⟨h1, h2, h3⟩ := hnew b hb; exact blk b h1 h2 h3)
  · have hc : w5.cell? ⟨S, 0, none⟩ = some v := (World.cell?_of_block (a := ⟨S, 0, none⟩) (hgrow.block S sblk.1 (fun e => sblk.2 e.symm))).trans ho.c0
    simp [go_sem, hc]
  · have hc : w5.cell? ⟨S, 1, none⟩ = some (.slice none 0 0) := (World.cell?_of_block (a := ⟨S, 1, none⟩) (hgrow.block S sblk.1 (fun e => sblk.2 e.symm))).trans ho.c1
    simp [go_sem, hc]
  · intro o
    have hf : w5.frozen? ⟨S, o, none⟩ = false := (World.frozen?_of_block (a := ⟨S, o, none⟩) (hgrow.block S sblk.1 (fun e => sblk.2 e.symm))).trans (ho.fr o)
    simp [go_sem, hf]
  · exact ((h.bel.trans (hx.mono h.bel.size)).grown hgrow (by have := h.bel.size; omega) (fun b hb => by have := (hvb b hb).1; omega)).setCell hwS _
  · have := hgrow.size
    simp; omega

/-- What is gathered is the new raft. -/
theorem PeSt.done {B S : Nat} {w wr : World} {a : Option Addr} {c : Nat} {qs : List QI} {L : List (List Int)} (h : PeSt B S w wr (.slice a qs.length c) qs) (e : qs.map QI.zs = L) :
    RaO wr B ⟨L.map peN, []⟩ a none (fun _ => none) (fun j => (qs.getD j ⟨[], none, 0⟩).a) (fun _ => none) (fun _ => 0) (fun j => (qs.getD j ⟨[], none, 0⟩).c) (fun _ => 0) := by
  have hget : ∀ j x, (L.map peN)[j]? = some x → ∃ q, qs[j]? = some q ∧ x = peN q.zs ∧ qs.getD j ⟨[], none, 0⟩ = q := fun j x hj => by
    rw [← e] at hj
    simp only [List.getElem?_map, Option.map_eq_some_iff] at hj
    obtain ⟨l, ⟨q, hq, rfl⟩, rfl⟩ := hj
    exact ⟨q, hq, rfl, by simp [List.getD_eq_getElem?_getD, hq]⟩
  have hlen : (L.map peN).length = qs.length := by rw [← e]; simp
  refine ⟨?_, ⟨fun j x b hj hb => ?_, fun j x b hj hb => ?_, fun j x j' x' b hj hj' hne hb => ?_, fun j x j' x' b hj hj' hb => ?_, fun j x j' x' b hj hj' hne hb => ?_⟩, .inl rfl, ⟨fun j c b hj => by simp at hj, fun j c j' c' b hj => by simp at hj⟩, fun x _ hx => by rcases hx with ⟨h0, -⟩ | ⟨j, c, hj, -⟩; simp at h0; simp at hj⟩
  · by_cases h0 : qs.length = 0
    · left
      exact List.eq_nil_of_length_eq_zero (by rw [hlen]; exact h0)
    · obtain ⟨g, cap, f, hv, hg, hcap, hrow, hx⟩ := row_of_ownsZ h.own (by omega)
      simp only [Value.slice.injEq] at hv
      obtain ⟨rfl, -, rfl⟩ := hv
      refine .inr ⟨g, _, f, rfl, hg, by show (L.map peN).length * 5 ≤ _; rw [hlen]; exact Nat.mul_le_mul_right 5 hcap, hrow, fun j x hj => ?_⟩
      obtain ⟨q, hq, rfl, ed⟩ := hget j x hj
      have hlt := (List.getElem?_eq_some_iff.1 hq).1
      have cell : ∀ r, r < 5 → (peC q)[r]? = some (f (j * 5 + r)) := fun r hr => by
        have := hx (j * 5 + r) (by omega)
        rwa [flatZ_get (C := peC) (s := 5) (fun _ => rfl) qs j r q hq hr] at this
      have m := List.mem_of_getElem? hq
      refine ⟨?_, ?_, ?_, ?_, ?_, ?_, ?_, ?_, ?_⟩
      · exact (Option.some.inj (cell 0 (by omega))).symm
      · exact (Option.some.inj (cell 1 (by omega))).symm
      · exact (Option.some.inj (cell 2 (by omega))).symm
      · exact (Option.some.inj (cell 3 (by omega))).symm
      · simp only [ed]; exact (Option.some.inj (cell 4 (by omega))).symm
      · exact Ens.nil _ _
      · exact .inl rfl
      · simp only [ed]; exact h.ints.ints q m
      · simp only [ed]; exact h.ints.row q m
  · obtain ⟨q, hq, rfl, ed⟩ := hget j x hj
    exact absurd hb.1 (by simp [peN])
  · obtain ⟨q, hq, rfl, ed⟩ := hget j x hj
    intro hr
    simp only [ed] at hb
    have m := List.mem_of_getElem? hq
    obtain ⟨t, m', f', hR, ht⟩ := (h.ints.row q m).typ (ts := [3]) (by simp) b hb
    have hpos : 0 < qs.length := List.length_pos_of_mem m
    obtain ⟨g, cap, f, hv, -, -, hR', -⟩ := row_of_ownsZ h.own hpos
    obtain ⟨-, o, s, e3⟩ := hr
    simp only [Value.slice.injEq] at hv
    rw [hv.1] at e3
    simp only [Option.some.injEq, Addr.mk.injEq] at e3
    obtain ⟨rfl, -⟩ := e3
    have := row_type hR' hR
    simp at ht
    rw [ht] at this
    exact absurd this (by decide)
  · obtain ⟨q, hq, rfl, ed⟩ := hget j x hj
    exact absurd hb.1 (by simp [peN])
  · obtain ⟨q, hq, rfl, ed⟩ := hget j x hj
    exact absurd hb.1 (by simp [peN])
  · obtain ⟨q, hq, rfl, ed⟩ := hget j x hj
    obtain ⟨q', hq', rfl, ed'⟩ := hget j' x' hj'
    simp only [ed] at hb
    simp only [ed']
    exact pair_apart h.ints.apart hq hq' hne hb

theorem newRa_zero (w : World) (B : Nat) : RaO w B ⟨[], []⟩ none none (fun _ => none) (fun _ => none) (fun _ => none) (fun _ => 0) (fun _ => 0) (fun _ => 0) :=
  ⟨.inl rfl, ⟨fun j c b hj => by simp at hj, fun j c b hj => by simp at hj, fun j c j' c' b hj => by simp at hj, fun j c j' c' b hj => by simp at hj, fun j c j' c' b hj => by simp at hj⟩, .inl rfl, ⟨fun j c b hj => by simp at hj, fun j c j' c' b hj => by simp at hj⟩, fun x _ hx => by rcases hx with ⟨h0, -⟩ | ⟨j, c, hj, -⟩; simp at h0; simp at hj⟩
theorem newRa_emptyS : RaS ⟨[], []⟩ := ⟨by simp, by simp, fun c hc => by simp at hc, fun c hc => by simp at hc, fun k hk => by simp [PeK, MaK]; omega⟩

theorem PeK_le {l : List Pe} {t : Nat} (h : ∀ c, c ∈ l → PeT c ≤ t) (k : Nat) : ∀ i, PeK l k i ≤ k + t * i
  | 0 => by simp [PeK]
  | i + 1 => by
    have := PeK_le h k i
    rw [PeK, Nat.mul_add]
    cases e : l[i]? with
    | none => simp only; omega
    | some c =>
      have := h c (List.mem_of_getElem? e)
      simp only; omega

theorem newRa_bad {z : Int} (h : inB z 1 5 = false) : newRa z = ⟨[], []⟩ := by simp [newRa, h]
theorem newRa_good {n : Nat} (h : inB n 1 5 = true) : newRa n = ⟨(List.replicate n (List.replicate n 0)).map peN, []⟩ := by simp [newRa, h]
theorem newRa_small (z : Int) : RaS (newRa z) ∧ RaL (newRa z) := by
  cases h : inB z 1 5 with
  | false => rw [newRa_bad h]; exact ⟨newRa_emptyS, ⟨by simp, by simp⟩⟩
  | true =>
    have hr := inB_t.1 h
    obtain ⟨n, rfl⟩ : ∃ n : Nat, z = n := ⟨z.toNat, by omega⟩
    rw [newRa_good h]
    have hl : n ≤ 5 := by omega
    have hg : ∀ c, c ∈ (List.replicate n (List.replicate n (0 : Int))).map peN → c.log.length = 0 ∧ c.mat.length = n := fun c hc => by
      obtain ⟨l, hl, rfl⟩ := List.mem_map.1 hc
      rw [(List.mem_replicate.1 hl).2]
      exact ⟨rfl, by simp [peN]⟩
    have hk := fun k => PeK_le (l := (List.replicate n (List.replicate n (0 : Int))).map peN) (t := 8) (fun c hc => by obtain ⟨e1, e2⟩ := hg c hc; unfold PeT; omega) k n
    refine ⟨⟨by simp; omega, by simp, fun c hc => by obtain ⟨e1, e2⟩ := hg c hc; unfold maxLen; omega, fun c hc => by simp at hc, fun k hk1 => ?_⟩, ⟨by simp; unfold maxLen; omega, by simp⟩⟩
    have := hk k
    simp only [List.length_map, List.length_replicate, List.length_nil, MaK]
    omega

end Go.Proofs.Ytglncbhbeikclaa
