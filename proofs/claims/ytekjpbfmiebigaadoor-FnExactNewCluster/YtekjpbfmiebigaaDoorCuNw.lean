/-
  New clusters, their nodes gathered one by one: the row and the lists lie apart, in memory of the call's own. Made by mkcunw.py.
-/
import Derived.Test.YtekjpbfmiebigaaDoorCluM
import Derived.Test.YtekjpbfmiebigaaDoorCuM
import Derived.Test.YtekjpbfmiebigaaDoorAppZ
import Derived.Test.YtekjpbfmiebigaaDoorQOutI
namespace Go.Proofs.YtekjpbfmiebigaaDoor
open Go.RowKit

def iotaZ (k : Nat) : List Int := (List.range k).map fun i : Nat => (i : Int)
theorem iotaZ_succ (k : Nat) : iotaZ (k + 1) = iotaZ k ++ [(k : Int)] := by simp [iotaZ, List.range_succ]
theorem iotaZ_len (k : Nat) : (iotaZ k).length = k := by simp [iotaZ]

def ndZ (n : Nat) : Nd := ⟨0, 0, iotaZ n, [], List.replicate n 0, 0⟩
def newCu (z : Int) : Cu := if inB z 2 4 = true then ⟨0, 0, iotaZ z.toNat, List.replicate z.toNat (ndZ z.toNat), []⟩ else ⟨0, 0, [], [], []⟩
theorem newCu_f {z : Int} (h : inB z 2 4 = false) : newCu z = ⟨0, 0, [], [], []⟩ := by simp [newCu, h]
theorem newCu_t {n : Nat} (h : inB (n : Int) 2 4 = true) : newCu (n : Int) = ⟨0, 0, iotaZ n, List.replicate n (ndZ n), []⟩ := by simp [newCu, h]

theorem NdK_le {l : List Nd} {t : Nat} (h : ∀ c, c ∈ l → NdT c ≤ t) (k : Nat) : ∀ i, NdK l k i ≤ k + t * i
  | 0 => by simp [NdK]
  | i + 1 => by
    have := NdK_le h k i
    rw [NdK, Nat.mul_add]
    cases e : l[i]? with
    | none => simp only; omega
    | some c =>
      have := h c (List.mem_of_getElem? e)
      simp only; omega

theorem newCu_small (z : Int) : CuS (newCu z) ∧ CuL (newCu z) := by
  cases h : inB z 2 4 with
  | false => rw [newCu_f h]; exact ⟨⟨by simp, by simp, by simp, fun c hc => by simp at hc, fun k hk => by simp [NdK]; omega⟩, ⟨by simp, by simp, by simp⟩⟩
  | true =>
    have hz := inB_t.1 h
    obtain ⟨n, rfl⟩ : ∃ n : Nat, z = n := ⟨z.toNat, by omega⟩
    rw [newCu_t h]
    have hg : ∀ c, c ∈ List.replicate n (ndZ n) → c.steps.length = n ∧ c.log.length = 0 ∧ c.known.length = n := fun c hc => by
      rw [List.eq_of_mem_replicate hc]; exact ⟨iotaZ_len n, rfl, by simp [ndZ]⟩
    have hk := fun k => NdK_le (l := List.replicate n (ndZ n)) (t := 12) (fun c hc => by obtain ⟨e1, e2, e3⟩ := hg c hc; unfold NdT; omega) k n
    refine ⟨⟨by simp [iotaZ_len]; omega, by simp; omega, by simp, fun c hc => by obtain ⟨e1, e2, e3⟩ := hg c hc; unfold maxLen; omega, fun k hk1 => ?_⟩, ⟨by simp [iotaZ_len]; unfold maxLen; omega, by simp; unfold maxLen; omega, by simp⟩⟩
    have := hk (k + (iotaZ n).length)
    simp only [List.length_replicate, iotaZ_len, List.length_nil] at this ⊢
    omega

/-- A new node's cells: who is in step, what is known. -/
def cxC (p : QI × QI) : List Value := [.int .i64 0, .int .i64 0, p.1.val, .slice none 0 0, p.2.val, .int .i64 0]
theorem cxC_one (p : QI × QI) : ∀ u ∈ cxC p, u.oneCell' = true := fun u hu => by simp [cxC] at hu; rcases hu with rfl | rfl | rfl | rfl | rfl | rfl <;> rfl
def fl (ps : List (QI × QI)) : List QI := ps.flatMap fun p => [p.1, p.2]
theorem fl_cons (q : QI × QI) (qs : List (QI × QI)) : fl (q :: qs) = q.1 :: q.2 :: fl qs := by simp [fl]
theorem fl_get : ∀ {ps : List (QI × QI)} {j : Nat} {p : QI × QI}, ps[j]? = some p → (fl ps)[j * 2]? = some p.1 ∧ (fl ps)[j * 2 + 1]? = some p.2
  | [], j, p, h => by simp at h
  | q :: qs, 0, p, h => by simp at h; subst h; rw [fl_cons]; exact ⟨rfl, rfl⟩
  | q :: qs, j + 1, p, h => by
    obtain ⟨h1, h2⟩ := fl_get (ps := qs) (j := j) (p := p) (by simpa using h)
    have e1 : (j + 1) * 2 = j * 2 + 1 + 1 := by omega
    rw [fl_cons, e1, List.getElem?_cons_succ, List.getElem?_cons_succ, List.getElem?_cons_succ, List.getElem?_cons_succ]
    exact ⟨h1, h2⟩
theorem fl_snoc (ps : List (QI × QI)) (p : QI × QI) : fl (ps ++ [p]) = fl ps ++ [p.1] ++ [p.2] := by simp [fl]

structure CxSt (B S : Nat) (w wr : World) (v d2 : Value) (ps : List (QI × QI)) : Prop where
  own : wr.ownsRow B 49 6 v ps.length (ps.flatMap cxC)
  ints : QIn wr B (fl ps)
  c0 : wr.cell? ⟨S, 3, none⟩ = some v
  e0 : wr.cell? ⟨S, 0, none⟩ = some (.int .i64 0)
  e1 : wr.cell? ⟨S, 1, none⟩ = some (.int .i64 0)
  e2 : wr.cell? ⟨S, 2, none⟩ = some d2
  e4 : wr.cell? ⟨S, 4, none⟩ = some (.slice none 0 0)
  fr : ∀ o, wr.frozen? ⟨S, o, none⟩ = false
  bel : Below w.heap.size w wr
  SB : S < B
  wS : w.heap.size ≤ S
  Bw : B ≤ wr.heap.size

theorem CxSt.below {B S : Nat} {w wr u : World} {v d2 : Value} {ps : List (QI × QI)} (h : CxSt B S w wr v d2 ps) (hb : Below wr.heap.size wr u) : CxSt B S w u v d2 ps :=
  ⟨ownsZ_below h.own hb, h.ints.below hb, celB hb h.c0, celB hb h.e0, celB hb h.e1, celB hb h.e2, celB hb h.e4, fun o => frzB hb (lt_of_cell h.c0) (h.fr o), h.bel.trans (hb.mono h.bel.size), h.SB, h.wS, by have := h.Bw; have := hb.size; omega⟩

theorem CxSt.step {B S : Nat} {w wr x w5 : World} {v d2 : Value} {ps : List (QI × QI)} {p : QI × QI} {g cap : Nat} (h : CxSt B S w wr v d2 ps) (hx : Below wr.heap.size wr x) (hi1 : Ints x p.1.a p.1.zs) (hr1 : RowI x wr.heap.size p.1.a p.1.zs.length) (hi2 : Ints x p.2.a p.2.zs) (hr2 : RowI x wr.heap.size p.2.a p.2.zs.length) (hd : ∀ b, InI p.1.a p.1.zs.length b → ¬ InI p.2.a p.2.zs.length b)
    (hgrow : x.grownBy w5 v.ownBlock) (hown : w5.ownsRow B 49 6 (.slice (some ⟨g, 0, none⟩) (ps.length + 1) cap) (ps.length + 1) (ps.flatMap cxC ++ cxC p)) (hat : v.ownBlock = some g ∨ g = x.heap.size) :
    CxSt B S w (w5.setCell ⟨S, 3, none⟩ (.slice (some ⟨g, 0, none⟩) (ps.length + 1) cap)) (.slice (some ⟨g, 0, none⟩) (ps.length + 1) cap) d2 (ps ++ [p]) := by
  have hBw := h.Bw
  have hSB := h.SB
  have hwS := h.wS
  have hsz := hx.size
  have hvb : ∀ b, v.ownBlock = some b → B ≤ b ∧ b < wr.heap.size := fun b hb => h.own.lt b hb
  have hgB : B ≤ g := by rcases hat with e | e; exact (hvb g e).1; omega
  have blk : ∀ b, b < x.heap.size → v.ownBlock ≠ some b → b ≠ S → (w5.setCell ⟨S, 3, none⟩ (.slice (some ⟨g, 0, none⟩) (ps.length + 1) cap)).heap[b]? = x.heap[b]? := fun b hb hv hs =>
    (Below.heap_setCell w5 ⟨S, 3, none⟩ _ b (by simpa using hs)).trans (hgrow.block b hb (fun e => hv e.symm))
  have sblk : S < x.heap.size ∧ v.ownBlock ≠ some S := ⟨by omega, fun e => by have := (hvb S e).1; omega⟩
  have ho := (h.below hx)
  have hold : ∀ q ∈ fl ps, ∀ b, InI q.a q.zs.length b → b < wr.heap.size ∧ v.ownBlock ≠ some b ∧ b ≠ S := fun q hq b hb => by
    have hrow := h.ints.row q hq
    refine ⟨(hrow.lt hb).2, fun e => ?_, fun e => by have := (hrow.lt hb).1; omega⟩
    have hpos : 0 < ps.length := by
      rcases ps with _ | ⟨y, ys⟩
      · simp [fl] at hq
      · simp
    obtain ⟨g', cap', f', hv', -, -, hR', -⟩ := row_of_ownsZ h.own hpos
    rw [hv'] at e
    have e2 : g' = b := by simpa [Value.ownBlock] using e
    subst e2
    obtain ⟨t, m, f, hR, ht⟩ := hrow.typ (ts := [3]) (by simp) g' hb
    have := row_type hR' hR
    simp at ht
    rw [ht] at this
    exact absurd this (by decide)
  have hnew1 : ∀ b, InI p.1.a p.1.zs.length b → b < x.heap.size ∧ v.ownBlock ≠ some b ∧ b ≠ S := fun b hb => by
    have := hr1.lt hb
    exact ⟨this.2, fun e => by have := (hvb b e).2; omega, by omega⟩
  have hnew2 : ∀ b, InI p.2.a p.2.zs.length b → b < x.heap.size ∧ v.ownBlock ≠ some b ∧ b ≠ S := fun b hb => by
    have := hr2.lt hb
    exact ⟨this.2, fun e => by have := (hvb b e).2; omega, by omega⟩
  refine ⟨?_, ?_, ?_, ?_, ?_, ?_, ?_, ?_, ?_, hSB, hwS, ?_⟩
  · have e : (ps ++ [p]).flatMap cxC = ps.flatMap cxC ++ cxC p := by simp
    rw [e, List.length_append, List.length_singleton]
    obtain ⟨o1, o2⟩ := hown
    refine ⟨o1, o2.imp id fun ⟨g', cap', cur, hv, hg, hh, r⟩ => ⟨g', cap', cur, hv, hg, ?_, r⟩⟩
    simp only [Value.slice.injEq, Option.some.injEq, Addr.mk.injEq] at hv
    exact (Below.heap_setCell w5 ⟨S, 3, none⟩ _ g' (by simp; omega)).trans hh
  · have k1 : ∀ b, InI p.1.a p.1.zs.length b → (w5.setCell ⟨S, 3, none⟩ (.slice (some ⟨g, 0, none⟩) (ps.length + 1) cap)).heap[b]? = x.heap[b]? := fun b hb => by obtain ⟨h1, h2, h3⟩ := hnew1 b hb; exact blk b h1 h2 h3
    have k2 : ∀ b, InI p.2.a p.2.zs.length b → (w5.setCell ⟨S, 3, none⟩ (.slice (some ⟨g, 0, none⟩) (ps.length + 1) cap)).heap[b]? = x.heap[b]? := fun b hb => by obtain ⟨h1, h2, h3⟩ := hnew2 b hb; exact blk b h1 h2 h3
    have hq0 : QIn (w5.setCell ⟨S, 3, none⟩ (.slice (some ⟨g, 0, none⟩) (ps.length + 1) cap)) B (fl ps) :=
      ⟨fun q hq => (h.ints.ints q hq).of_block fun b hb => by obtain ⟨h1, h2, h3⟩ := hold q hq b hb; exact (blk b (by omega) h2 h3).trans (hx.block b h1),
       fun q hq => (h.ints.row q hq).of_block fun b hb => by obtain ⟨h1, h2, h3⟩ := hold q hq b hb; exact (blk b (by omega) h2 h3).trans (hx.block b h1), h.ints.apart⟩
    have hq1 := hq0.snoc (N := wr.heap.size) (fun q hq b hb => (hold q hq b hb).1) hBw (hi1.of_block k1) (hr1.of_block k1)
    rw [fl_snoc]
    refine ⟨fun q hq => ?_, fun q hq => ?_, ?_⟩
    · rcases List.mem_append.1 hq with h1 | h1
      · exact hq1.ints q h1
      · simp at h1; subst h1; exact hi2.of_block k2
    · rcases List.mem_append.1 hq with h1 | h1
      · exact hq1.row q h1
      · simp at h1; subst h1; exact (hr2.of_block k2).mono hBw
    · refine List.pairwise_append.2 ⟨hq1.apart, List.pairwise_singleton _ _, fun q hq q' hq' b hb hb' => ?_⟩
      simp at hq'; subst hq'
      rcases List.mem_append.1 hq with h1 | h1
      · have := (hold q h1 b hb).1
        have := (hr2.lt hb').1
        omega
      · simp at h1; subst h1; exact hd b hb hb'
  · have hc : w5.cell? ⟨S, 3, none⟩ = some (v) := (World.cell?_of_block (a := ⟨S, 3, none⟩) (hgrow.block S sblk.1 (fun e => sblk.2 e.symm))).trans ho.c0
    simp [go_sem, hc]
  · have hc : w5.cell? ⟨S, 0, none⟩ = some (.int .i64 0) := (World.cell?_of_block (a := ⟨S, 0, none⟩) (hgrow.block S sblk.1 (fun e => sblk.2 e.symm))).trans ho.e0
    simp [go_sem, hc]
  · have hc : w5.cell? ⟨S, 1, none⟩ = some (.int .i64 0) := (World.cell?_of_block (a := ⟨S, 1, none⟩) (hgrow.block S sblk.1 (fun e => sblk.2 e.symm))).trans ho.e1
    simp [go_sem, hc]
  · have hc : w5.cell? ⟨S, 2, none⟩ = some (d2) := (World.cell?_of_block (a := ⟨S, 2, none⟩) (hgrow.block S sblk.1 (fun e => sblk.2 e.symm))).trans ho.e2
    simp [go_sem, hc]
  · have hc : w5.cell? ⟨S, 4, none⟩ = some (.slice none 0 0) := (World.cell?_of_block (a := ⟨S, 4, none⟩) (hgrow.block S sblk.1 (fun e => sblk.2 e.symm))).trans ho.e4
    simp [go_sem, hc]
  · intro o
    have hf : w5.frozen? ⟨S, o, none⟩ = false := (World.frozen?_of_block (a := ⟨S, o, none⟩) (hgrow.block S sblk.1 (fun e => sblk.2 e.symm))).trans (ho.fr o)
    simp [go_sem, hf]
  · exact ((h.bel.trans (hx.mono h.bel.size)).grown hgrow (by have := h.bel.size; omega) (fun b hb => by have := (hvb b hb).1; omega)).setCell hwS _
  · have := hgrow.size
    simp; omega

theorem NdO.mono {w : World} {B B' : Nat} {a : Option Addr} {l : List Nd} {r2 r3 r4 : Nat → Option Addr} {k2 k3 k4 : Nat → Nat} (h : NdO w B a l r2 r3 r4 k2 k3 k4) (hb : B' ≤ B) : NdO w B' a l r2 r3 r4 k2 k3 k4 := by
  rcases h with rfl | ⟨R, m, f, rfl, hR, hm, hrow, hp⟩
  · exact .inl rfl
  · exact .inr ⟨R, m, f, rfl, Nat.le_trans hb hR, hm, hrow, fun j c hj => by
      obtain ⟨c0, c1, c2, c3, c4, c5, q2, w2, q3, w3, q4, w4⟩ := hp j c hj
      exact ⟨c0, c1, c2, c3, c4, c5, q2, w2.mono hb, q3, w3.mono hb, q4, w4.mono hb⟩⟩

def p0N : QI × QI := (⟨[], none, 0⟩, ⟨[], none, 0⟩)
/-- What is gathered are the new nodes. -/
theorem CxSt.done {B B0 S n : Nat} {w wr : World} {a a0 : Option Addr} {c : Nat} {d2 : Value} {ps : List (QI × QI)} {zs : List Int} (h : CxSt B S w wr (.slice a ps.length c) d2 ps) (e : ∀ p ∈ ps, p.1.zs = iotaZ n ∧ p.2.zs = List.replicate n 0) (hB0 : B0 ≤ B)
    (i1 : Ints wr a0 zs) (j1 : RowI wr B0 a0 zs.length) (l1 : ∀ b, InI a0 zs.length b → b < B) :
    CuO wr B0 ⟨0, 0, zs, List.replicate ps.length (ndZ n), []⟩ a0 a none (fun j => (ps.getD j p0N).1.a) (fun _ => none) (fun j => (ps.getD j p0N).2.a) (fun j => (ps.getD j p0N).1.c) (fun _ => 0) (fun j => (ps.getD j p0N).2.c) := by
  have hget : ∀ j x, (List.replicate ps.length (ndZ n))[j]? = some x → ∃ p, ps[j]? = some p ∧ x = ndZ n ∧ ps.getD j p0N = p ∧ p.1.zs = iotaZ n ∧ p.2.zs = List.replicate n 0 := fun j x hj => by
    rw [List.getElem?_replicate] at hj
    split at hj
    · rename_i hlt
      obtain rfl := Option.some.inj hj
      have hp := List.getElem?_eq_getElem hlt
      obtain ⟨e1, e2⟩ := e _ (List.mem_of_getElem? hp)
      exact ⟨_, hp, rfl, by simp [List.getD_eq_getElem?_getD, hp], e1, e2⟩
    · cases hj
  have hO : NdO wr B a (List.replicate ps.length (ndZ n)) (fun j => (ps.getD j p0N).1.a) (fun _ => none) (fun j => (ps.getD j p0N).2.a) (fun j => (ps.getD j p0N).1.c) (fun _ => 0) (fun j => (ps.getD j p0N).2.c) := by
    by_cases h0 : ps.length = 0
    · left
      rw [h0]; rfl
    · obtain ⟨g, cap, f, hv, hg, hcap, hrow, hx⟩ := row_of_ownsZ h.own (by omega)
      simp only [Value.slice.injEq] at hv
      obtain ⟨rfl, -, rfl⟩ := hv
      refine .inr ⟨g, _, f, rfl, hg, by rw [List.length_replicate]; exact Nat.mul_le_mul_right 6 hcap, hrow, fun j x hj => ?_⟩
      obtain ⟨p, hp, rfl, ed, ez, ek⟩ := hget j x hj
      have hlt := (List.getElem?_eq_some_iff.1 hp).1
      have cell : ∀ r, r < 6 → (cxC p)[r]? = some (f (j * 6 + r)) := fun r hr => by
        have := hx (j * 6 + r) (by omega)
        rwa [flatZ_get (C := cxC) (s := 6) (fun _ => rfl) ps j r p hp hr] at this
      obtain ⟨f1, f2⟩ := fl_get hp
      have m1 := List.mem_of_getElem? f1
      have m2 := List.mem_of_getElem? f2
      have x1 := h.ints.ints _ m1
      have x2 := h.ints.row _ m1
      have y1 := h.ints.ints _ m2
      have y2 := h.ints.row _ m2
      rw [ez] at x1 x2
      rw [ek] at y1 y2
      refine ⟨?_, ?_, ?_, ?_, ?_, ?_, ?_, ?_, ?_, ?_, ?_, ?_⟩
      · exact (Option.some.inj (cell 0 (by omega))).symm
      · exact (Option.some.inj (cell 1 (by omega))).symm
      · have := (Option.some.inj (cell 2 (by omega))).symm
        simp only [ed, ndZ]
        rw [this, QI.val, ez]
      · exact (Option.some.inj (cell 3 (by omega))).symm
      · have := (Option.some.inj (cell 4 (by omega))).symm
        simp only [ed, ndZ]
        rw [this, QI.val, ek]
      · exact (Option.some.inj (cell 5 (by omega))).symm
      · simp only [ed]; exact x1
      · simp only [ed]; exact x2
      · exact Rws.nil _ _
      · exact .inl rfl
      · simp only [ed]; exact y1
      · simp only [ed]; exact y2
  have norow : ∀ q ∈ fl ps, ∀ b, InI q.a q.zs.length b → ¬ InI a ps.length b := fun q hq b hb hr => by
    obtain ⟨t, m', f', hR, ht⟩ := (h.ints.row q hq).typ (ts := [3]) (by simp) b hb
    obtain ⟨g, cap, f, hv, -, -, hR', -⟩ := row_of_ownsZ h.own hr.1
    obtain ⟨-, o, s, e3⟩ := hr
    simp only [Value.slice.injEq] at hv
    rw [hv.1] at e3
    simp only [Option.some.injEq, Addr.mk.injEq] at e3
    obtain ⟨rfl, -⟩ := e3
    have := row_type hR' hR
    simp at ht
    rw [ht] at this
    exact absurd this (by decide)
  have ap : ∀ (i j : Nat) (q q' : QI), (fl ps)[i]? = some q → (fl ps)[j]? = some q' → i ≠ j → ∀ b, InI q.a q.zs.length b → ¬ InI q'.a q'.zs.length b := fun i j q q' hi hj hne b hb => pair_apart h.ints.apart hi hj hne hb
  refine ⟨i1, j1, hO.mono hB0, ⟨fun j c b hj hb => ?_, fun j c b hj hb => absurd hb.1 (by obtain ⟨_, _, rfl, _⟩ := hget j c hj; simp [ndZ]), fun j c b hj hb => ?_, fun j c j' c' b hj hj' hne hb => ?_, fun j c j' c' b hj hj' hb hb' => absurd hb'.1 (by obtain ⟨_, _, rfl, _⟩ := hget j' c' hj'; simp [ndZ]), fun j c j' c' b hj hj' hb => ?_, fun j c j' c' b hj hj' hne hb => absurd hb.1 (by obtain ⟨_, _, rfl, _⟩ := hget j c hj; simp [ndZ]), fun j c j' c' b hj hj' hb => absurd hb.1 (by obtain ⟨_, _, rfl, _⟩ := hget j c hj; simp [ndZ]), fun j c j' c' b hj hj' hne hb => ?_⟩, Rws.nil _ _, .inl rfl, fun x hx hy => ?_, fun x _ hx => absurd hx.1 (by simp)⟩
  · obtain ⟨p, hp, rfl, ed, ez, ek⟩ := hget j c hj
    simp only [ed, ndZ] at hb
    rw [← ez] at hb
    rw [List.length_replicate]
    exact norow _ (List.mem_of_getElem? (fl_get hp).1) b hb
  · obtain ⟨p, hp, rfl, ed, ez, ek⟩ := hget j c hj
    simp only [ed, ndZ] at hb
    rw [← ek] at hb
    rw [List.length_replicate]
    exact norow _ (List.mem_of_getElem? (fl_get hp).2) b hb
  · obtain ⟨p, hp, rfl, ed, ez, ek⟩ := hget j c hj
    obtain ⟨p', hp', rfl, ed', ez', ek'⟩ := hget j' c' hj'
    simp only [ed, ed', ndZ] at hb ⊢
    rw [← ez] at hb
    rw [← ez']
    exact ap _ _ _ _ (fl_get hp).1 (fl_get hp').1 (by omega) b hb
  · obtain ⟨p, hp, rfl, ed, ez, ek⟩ := hget j c hj
    obtain ⟨p', hp', rfl, ed', ez', ek'⟩ := hget j' c' hj'
    simp only [ed, ed', ndZ] at hb ⊢
    rw [← ez] at hb
    rw [← ek']
    exact ap _ _ _ _ (fl_get hp).1 (fl_get hp').2 (by omega) b hb
  · obtain ⟨p, hp, rfl, ed, ez, ek⟩ := hget j c hj
    obtain ⟨p', hp', rfl, ed', ez', ek'⟩ := hget j' c' hj'
    simp only [ed, ed', ndZ] at hb ⊢
    rw [← ek] at hb
    rw [← ek']
    exact ap _ _ _ _ (fl_get hp).2 (fl_get hp').2 (by omega) b hb
  · have := (hO.lt hy).1
    have := l1 x hx
    omega

theorem newCu_zero (w : World) (B : Nat) : CuO w B ⟨0, 0, [], [], []⟩ none none none (fun _ => none) (fun _ => none) (fun _ => none) (fun _ => 0) (fun _ => 0) (fun _ => 0) :=
  ⟨Ints.nil _ _, .inl rfl, .inl rfl, by constructor <;> (intros; simp_all), Rws.nil _ _, .inl rfl, fun x hx => absurd hx.1 (by simp), fun x _ hx => absurd hx.1 (by simp)⟩

end Go.Proofs.YtekjpbfmiebigaaDoor
