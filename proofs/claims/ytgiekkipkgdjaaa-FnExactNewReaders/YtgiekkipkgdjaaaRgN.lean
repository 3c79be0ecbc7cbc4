/-
  New readers, gathered one by one: their row and their lists lie apart, in memory of the call's own. Made by mkrgn.py.
-/
import Derived.Test.YtgiekkipkgdjaaaRdgM
import Derived.Test.YtgiekkipkgdjaaaAppZ
import Derived.Test.YtgiekkipkgdjaaaQOutI
import Derived.Test.YtgiekkipkgdjaaaGnM
namespace Go.Proofs.Ytgiekkipkgdjaaa
open Go.RowKit

/-- A new reader's cells, its Read at this place. -/
def rxC (q : QI) : List Value := [.bool false, .int .i64 0, .slice none 0 0, q.val]
def rxN (l : List Int) : Rx := ⟨false, 0, [], l⟩
theorem rxC_one (q : QI) : ∀ u ∈ rxC q, u.oneCell' = true := fun u hu => by simp [rxC] at hu; rcases hu with rfl | rfl | rfl | rfl <;> rfl

def nrOk (z : Int) (l : List Int) : Bool := inB z 1 5 && (inB l.length 1 6 && l.all (fun n => inB n 0 100))
def newRg (z : Int) (l : List Int) : Rg := if nrOk z l = true then ⟨0, (List.replicate z.toNat (List.replicate l.length 0)).map rxN, List.replicate l.length 0, l⟩ else ⟨0, [], [], []⟩

structure RxSt (B S : Nat) (w wr : World) (v d2 d3 : Value) (qs : List QI) : Prop where
  own : wr.ownsRow B 67 4 v qs.length (qs.flatMap rxC)
  ints : QIn wr B qs
  c0 : wr.cell? ⟨S, 1, none⟩ = some v
  e0 : wr.cell? ⟨S, 0, none⟩ = some (.int .i64 0)
  e2 : wr.cell? ⟨S, 2, none⟩ = some d2
  e3 : wr.cell? ⟨S, 3, none⟩ = some d3
  fr : ∀ o, wr.frozen? ⟨S, o, none⟩ = false
  bel : Below w.heap.size w wr
  SB : S < B
  wS : w.heap.size ≤ S
  Bw : B ≤ wr.heap.size

theorem RxSt.below {B S : Nat} {w wr u : World} {v d2 d3 : Value} {qs : List QI} (h : RxSt B S w wr v d2 d3 qs) (hb : Below wr.heap.size wr u) : RxSt B S w u v d2 d3 qs :=
  ⟨ownsZ_below h.own hb, h.ints.below hb, celB hb h.c0, celB hb h.e0, celB hb h.e2, celB hb h.e3, fun o => frzB hb (lt_of_cell h.c0) (h.fr o), h.bel.trans (hb.mono h.bel.size), h.SB, h.wS, by have := h.Bw; have := hb.size; omega⟩

theorem RxSt.step {B S : Nat} {w wr x w5 : World} {v d2 d3 : Value} {qs : List QI} {q : QI} {g cap : Nat} (h : RxSt B S w wr v d2 d3 qs) (hx : Below wr.heap.size wr x) (hi : Ints x q.a q.zs) (hr : RowI x wr.heap.size q.a q.zs.length)
    (hgrow : x.grownBy w5 v.ownBlock) (hown : w5.ownsRow B 67 4 (.slice (some ⟨g, 0, none⟩) (qs.length + 1) cap) (qs.length + 1) (qs.flatMap rxC ++ rxC q)) (hat : v.ownBlock = some g ∨ g = x.heap.size) :
    RxSt B S w (w5.setCell ⟨S, 1, none⟩ (.slice (some ⟨g, 0, none⟩) (qs.length + 1) cap)) (.slice (some ⟨g, 0, none⟩) (qs.length + 1) cap) d2 d3 (qs ++ [q]) := by
  have hBw := h.Bw
  have hSB := h.SB
  have hwS := h.wS
  have hsz := hx.size
  have hvb : ∀ b, v.ownBlock = some b → B ≤ b ∧ b < wr.heap.size := fun b hb => h.own.lt b hb
  have hgB : B ≤ g := by rcases hat with e | e; exact (hvb g e).1; omega
  -- what lies elsewhere stays
  have blk : ∀ b, b < x.heap.size → v.ownBlock ≠ some b → b ≠ S → (w5.setCell ⟨S, 1, none⟩ (.slice (some ⟨g, 0, none⟩) (qs.length + 1) cap)).heap[b]? = x.heap[b]? := fun b hb hv hs =>
    (Below.heap_setCell w5 ⟨S, 1, none⟩ _ b (by simpa using hs)).trans (hgrow.block b hb (fun e => hv e.symm))
  have sblk : S < x.heap.size ∧ v.ownBlock ≠ some S := ⟨by omega, fun e => by have := (hvb S e).1; omega⟩
  have ho := (h.below hx)
  have hold : ∀ p ∈ qs, ∀ b, InI p.a p.zs.length b → b < wr.heap.size ∧ v.ownBlock ≠ some b ∧ b ≠ S := fun p hp b hb => by
    have hrow := h.ints.row p hp
    refine ⟨(hrow.lt hb).2, fun e => ?_, fun e => by have := (hrow.lt hb).1; omega⟩
    have hpos : 0 < qs.length := List.length_pos_of_mem hp
    obtain ⟨g', cap', f', hv', -, -, hR', -⟩ := row_of_ownsZ h.own hpos
    rw [hv'] at e
    have e2 : g' = b := by simpa [Value.ownBlock] using e
    subst e2
    obtain ⟨t, m, f, hR, ht⟩ := hrow.typ (ts := [3]) (by simp) g' hb
    have := row_type hR' hR
    simp at ht
    rw [ht] at this
    exact absurd this (by decide)
  have hnew : ∀ b, InI q.a q.zs.length b → b < x.heap.size ∧ v.ownBlock ≠ some b ∧ b ≠ S := fun b hb => by
    have := hr.lt hb
    exact ⟨this.2, fun e => by have := (hvb b e).2; omega, by omega⟩
  refine ⟨?_, ?_, ?_, ?_, ?_, ?_, ?_, ?_, hSB, hwS, ?_⟩
  · have e : (qs ++ [q]).flatMap rxC = qs.flatMap rxC ++ rxC q := by simp
    rw [e, List.length_append, List.length_singleton]
    obtain ⟨o1, o2⟩ := hown
    refine ⟨o1, o2.imp id fun ⟨g', cap', cur, hv, hg, hh, r⟩ => ⟨g', cap', cur, hv, hg, ?_, r⟩⟩
    simp only [Value.slice.injEq, Option.some.injEq, Addr.mk.injEq] at hv
    exact (Below.heap_setCell w5 ⟨S, 1, none⟩ _ g' (by simp; omega)).trans hh
  · have hq0 : QIn (w5.setCell ⟨S, 1, none⟩ (.slice (some ⟨g, 0, none⟩) (qs.length + 1) cap)) B qs :=
      ⟨fun p hp => (h.ints.ints p hp).of_block fun b hb => by obtain ⟨h1, h2, h3⟩ := hold p hp b hb; exact (blk b (by omega) h2 h3).trans (hx.block b h1),
       fun p hp => (h.ints.row p hp).of_block fun b hb => by obtain ⟨h1, h2, h3⟩ := hold p hp b hb; exact (blk b (by omega) h2 h3).trans (hx.block b h1), h.ints.apart⟩
    exact hq0.snoc (N := wr.heap.size) (fun p hp b hb => (hold p hp b hb).1) hBw
      (hi.of_block fun b hb => by obtain ⟨h1, h2, h3⟩ := hnew b hb; exact blk b h1 h2 h3) (hr.of_block fun b hb => by obtain ⟨h1, h2, h3⟩ := hnew b hb; exact blk b h1 h2 h3)
  · have hc : w5.cell? ⟨S, 1, none⟩ = some v := (World.cell?_of_block (a := ⟨S, 1, none⟩) (hgrow.block S sblk.1 (fun e => sblk.2 e.symm))).trans ho.c0
    simp [go_sem, hc]
  · have hc : w5.cell? ⟨S, 0, none⟩ = some (.int .i64 0) := (World.cell?_of_block (a := ⟨S, 0, none⟩) (hgrow.block S sblk.1 (fun e => sblk.2 e.symm))).trans ho.e0
    simp [go_sem, hc]
  · have hc : w5.cell? ⟨S, 2, none⟩ = some d2 := (World.cell?_of_block (a := ⟨S, 2, none⟩) (hgrow.block S sblk.1 (fun e => sblk.2 e.symm))).trans ho.e2
    simp [go_sem, hc]
  · have hc : w5.cell? ⟨S, 3, none⟩ = some d3 := (World.cell?_of_block (a := ⟨S, 3, none⟩) (hgrow.block S sblk.1 (fun e => sblk.2 e.symm))).trans ho.e3
    simp [go_sem, hc]
  · intro o
    have hf : w5.frozen? ⟨S, o, none⟩ = false := (World.frozen?_of_block (a := ⟨S, o, none⟩) (hgrow.block S sblk.1 (fun e => sblk.2 e.symm))).trans (ho.fr o)
    simp [go_sem, hf]
  · exact ((h.bel.trans (hx.mono h.bel.size)).grown hgrow (by have := h.bel.size; omega) (fun b hb => by have := (hvb b hb).1; omega)).setCell hwS _
  · have := hgrow.size
    simp; omega

theorem RxO.mono {w : World} {B B' : Nat} {a : Option Addr} {l : List Rx} {r2 r3 : Nat → Option Addr} {k2 k3 : Nat → Nat} (h : RxO w B a l r2 r3 k2 k3) (hb : B' ≤ B) : RxO w B' a l r2 r3 k2 k3 := by
  rcases h with rfl | ⟨R, m, f, rfl, hR, hm, hrow, hp⟩
  · exact .inl rfl
  · exact .inr ⟨R, m, f, rfl, Nat.le_trans hb hR, hm, hrow, fun j c hj => by
      obtain ⟨x0, x1, x2, x3, x5, w2, x6, w4⟩ := hp j c hj
      exact ⟨x0, x1, x2, x3, x5, w2.mono hb, x6, w4.mono hb⟩⟩

/-- What is gathered are the new readers. -/
theorem RxSt.done {B B0 S : Nat} {w wr : World} {a a1 a2 : Option Addr} {c : Nat} {d2 d3 : Value} {qs : List QI} {L : List (List Int)} {zs es : List Int} (h : RxSt B S w wr (.slice a qs.length c) d2 d3 qs) (e : qs.map QI.zs = L) (hB0 : B0 ≤ B)
    (i1 : Ints wr a1 zs) (j1 : RowI wr B0 a1 zs.length) (i2 : Ints wr a2 es) (j2 : RowI wr B0 a2 es.length) (l1 : ∀ b, InI a1 zs.length b → b < B) (l2 : ∀ b, InI a2 es.length b → b < B) (l3 : ∀ b, InI a1 zs.length b → InI a2 es.length b → False) :
    RgO wr B0 ⟨0, L.map rxN, zs, es⟩ a a1 a2 (fun _ => none) (fun j => (qs.getD j ⟨[], none, 0⟩).a) (fun _ => 0) (fun j => (qs.getD j ⟨[], none, 0⟩).c) := by
  have hget : ∀ j x, (L.map rxN)[j]? = some x → ∃ q, qs[j]? = some q ∧ x = rxN q.zs ∧ qs.getD j ⟨[], none, 0⟩ = q := fun j x hj => by
    rw [← e] at hj
    simp only [List.getElem?_map, Option.map_eq_some_iff] at hj
    obtain ⟨l, ⟨q, hq, rfl⟩, rfl⟩ := hj
    exact ⟨q, hq, rfl, by simp [List.getD_eq_getElem?_getD, hq]⟩
  have hlen : (L.map rxN).length = qs.length := by rw [← e]; simp
  have hO : RxO wr B a (L.map rxN) (fun _ => none) (fun j => (qs.getD j ⟨[], none, 0⟩).a) (fun _ => 0) (fun j => (qs.getD j ⟨[], none, 0⟩).c) := by
    by_cases h0 : qs.length = 0
    · left
      exact List.eq_nil_of_length_eq_zero (by rw [hlen]; exact h0)
    · obtain ⟨g, cap, f, hv, hg, hcap, hrow, hx⟩ := row_of_ownsZ h.own (by omega)
      simp only [Value.slice.injEq] at hv
      obtain ⟨rfl, -, rfl⟩ := hv
      refine .inr ⟨g, _, f, rfl, hg, by rw [hlen]; exact Nat.mul_le_mul_right 4 hcap, hrow, fun j x hj => ?_⟩
      obtain ⟨q, hq, rfl, ed⟩ := hget j x hj
      have hlt := (List.getElem?_eq_some_iff.1 hq).1
      have cell : ∀ r, r < 4 → (rxC q)[r]? = some (f (j * 4 + r)) := fun r hr => by
        have := hx (j * 4 + r) (by omega)
        rwa [flatZ_get (C := rxC) (s := 4) (fun _ => rfl) qs j r q hq hr] at this
      have m := List.mem_of_getElem? hq
      refine ⟨?_, ?_, ?_, ?_, ?_, ?_, ?_, ?_⟩
      · exact (Option.some.inj (cell 0 (by omega))).symm
      · exact (Option.some.inj (cell 1 (by omega))).symm
      · exact (Option.some.inj (cell 2 (by omega))).symm
      · simp only [ed]; exact (Option.some.inj (cell 3 (by omega))).symm
      · exact Ints.nil _ _
      · exact .inl rfl
      · simp only [ed]; exact h.ints.ints q m
      · simp only [ed]; exact h.ints.row q m
  refine ⟨hO.mono hB0, ⟨fun j x b hj hb => ?_, fun j x b hj hb => ?_, fun j x j' x' b hj hj' hne hb => ?_, fun j x j' x' b hj hj' hb => ?_, fun j x j' x' b hj hj' hne hb => ?_⟩, i1, j1, i2, j2, fun x hx hy => ?_, fun x hx hy => ?_, l3⟩
  · obtain ⟨q, hq, rfl, ed⟩ := hget j x hj
    exact absurd hb.1 (by simp [rxN])
  · obtain ⟨q, hq, rfl, ed⟩ := hget j x hj
    intro hr
    simp only [ed] at hb
    have m := List.mem_of_getElem? hq
    obtain ⟨t, m', f', hR, ht⟩ := (h.ints.row q m).typ (ts := [3]) (by simp) b hb
    have hpos : 0 < qs.length := List.length_pos_of_mem m
    obtain ⟨g, cap, f, hv, -, -, hR', -⟩ := row_of_ownsZ h.own hpos
    obtain ⟨-, o, s, e3⟩ := hr
    simp only [Value.slice.injEq] at hv
    rw [hv.1] at e3
    simp only [Option.some.injEq, Addr.mk.injEq] at e3
    obtain ⟨rfl, -⟩ := e3
    have := row_type hR' hR
    simp at ht
    rw [ht] at this
    exact absurd this (by decide)
  · obtain ⟨q, hq, rfl, ed⟩ := hget j x hj
    exact absurd hb.1 (by simp [rxN])
  · obtain ⟨q, hq, rfl, ed⟩ := hget j x hj
    exact absurd hb.1 (by simp [rxN])
  · obtain ⟨q, hq, rfl, ed⟩ := hget j x hj
    obtain ⟨q', hq', rfl, ed'⟩ := hget j' x' hj'
    simp only [ed] at hb
    simp only [ed']
    exact pair_apart h.ints.apart hq hq' hne hb
  · have := (hO.lt hx).1
    have := l1 x hy
    omega
  · have := (hO.lt hx).1
    have := l2 x hy
    omega

theorem newRg_zero (w : World) (B : Nat) : RgO w B ⟨0, [], [], []⟩ none none none (fun _ => none) (fun _ => none) (fun _ => 0) (fun _ => 0) :=
  ⟨.inl rfl, ⟨fun j c b hj => by simp at hj, fun j c b hj => by simp at hj, fun j c j' c' b hj => by simp at hj, fun j c j' c' b hj => by simp at hj, fun j c j' c' b hj => by simp at hj⟩, Ints.nil _ _, .inl rfl, Ints.nil _ _, .inl rfl, fun x _ hx => absurd hx.1 (by simp), fun x _ hx => absurd hx.1 (by simp), fun x _ hx => absurd hx.1 (by simp)⟩
theorem newRg_bad {z : Int} {l : List Int} (h : nrOk z l = false) : newRg z l = ⟨0, [], [], []⟩ := by simp [newRg, h]
theorem newRg_good {n : Nat} {l : List Int} (h : nrOk n l = true) : newRg n l = ⟨0, (List.replicate n (List.replicate l.length 0)).map rxN, List.replicate l.length 0, l⟩ := by simp [newRg, h]

theorem RxK_le {l : List Rx} {t : Nat} (h : ∀ c, c ∈ l → RxT c ≤ t) (k : Nat) : ∀ i, RxK l k i ≤ k + t * i
  | 0 => by simp [RxK]
  | i + 1 => by
    have := RxK_le h k i
    rw [RxK, Nat.mul_add]
    cases e : l[i]? with
    | none => simp only; omega
    | some c =>
      have := h c (List.mem_of_getElem? e)
      simp only; omega

theorem newRg_small (z : Int) (l : List Int) : RgS (newRg z l) ∧ RgL (newRg z l) := by
  cases h : nrOk z l with
  | false => rw [newRg_bad h]; exact ⟨⟨by simp, by simp, by simp, fun c hc => by simp at hc, fun k hk => by simp [RxK]; omega⟩, ⟨by simp, by simp, by simp⟩⟩
  | true =>
    have hr := h
    simp only [nrOk, Bool.and_eq_true] at hr
    have h1 := inB_t.1 hr.1
    have h2 := inB_t.1 hr.2.1
    obtain ⟨n, rfl⟩ : ∃ n : Nat, z = n := ⟨z.toNat, by omega⟩
    rw [newRg_good h]
    have hg : ∀ c, c ∈ (List.replicate n (List.replicate l.length (0 : Int))).map rxN → c.share.length = 0 ∧ c.read.length = l.length := fun c hc => by
      obtain ⟨l', hl, rfl⟩ := List.mem_map.1 hc
      rw [(List.mem_replicate.1 hl).2]
      exact ⟨rfl, by simp [rxN]⟩
    have hk := fun k => RxK_le (l := (List.replicate n (List.replicate l.length (0 : Int))).map rxN) (t := 12) (fun c hc => by obtain ⟨e1, e2⟩ := hg c hc; unfold RxT; omega) k n
    refine ⟨⟨by simp; omega, by simp; omega, by simp only; omega, fun c hc => by obtain ⟨e1, e2⟩ := hg c hc; unfold maxLen; omega, fun k hk1 => ?_⟩, ⟨by simp; unfold maxLen; omega, by simp; unfold maxLen; omega, by simp only; unfold maxLen; omega⟩⟩
    have := hk k
    simp only [List.length_map, List.length_replicate]
    omega

end Go.Proofs.Ytgiekkipkgdjaaa
