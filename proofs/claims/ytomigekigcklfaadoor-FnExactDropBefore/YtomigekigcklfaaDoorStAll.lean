/-
  Stores: whether one is good, and its batches; and how lists of batches are joined by append.
-/
import Derived.Test.YtomigekigcklfaaDoorRdJoin
import Derived.Test.YtomigekigcklfaaDoorSgs3
import Derived.Laws.AppendOwnNone
namespace Go.Proofs.YtomigekigcklfaaDoor
open Go.RowKit

def rsOf (gs : List Sg) : List Rs := gs.map Sg.rs

/-- The batches of all segments. -/
def stAll (gs : List Sg) : List Bt := (gs.map Sg.l).flatten

def imGood (n : Nat) (x : Int) (rs : List Rs) (base : Int) : Bool := match imF n 0 rs base [] with
  | none => false
  | some (nx, all) => decide (nx = x) && goodLog all

/-- Is the store good? In the program's order. -/
def stG (gs : List Sg) (x : Int) : Bool := match gs with
  | [] => false
  | g :: r => decide ((g :: r).length ≤ 8) && (inB x 0 100000 && imGood (g :: r).length x (rsOf (g :: r)) g.base)

/-- The same in the specification's order. -/
def stS (gs : List Sg) (x : Int) : Bool := match spS gs.length 0 (rsOf gs) (-1) 0 with
  | none => false
  | some nx => inB gs.length 1 8 && (decide (x = nx) && inB x 0 100000)

theorem rs_good (gs : List Sg) : ∀ x, x ∈ rsOf gs → goodLog x.l = true := fun x hx => by
  obtain ⟨g, -, rfl⟩ := List.mem_map.1 hx
  exact readL_good _

theorem inB_iff {n lo hi : Int} : inB n lo hi = true ↔ lo ≤ n ∧ n ≤ hi := by
  unfold inB; simp

theorem st_same (gs : List Sg) (x : Int) : stS gs x = stG gs x := by
  cases gs with
  | nil => simp [stS, stG, rsOf, spS, inB]
  | cons g r =>
    have hlen : (rsOf (g :: r)).length = (g :: r).length := by simp [rsOf]
    cases hx : inB x 0 100000 with
    | false =>
      unfold stS stG
      rw [hx]
      split <;> simp
    | true =>
      have hx2 := inB_iff.1 hx
      have h := store_same g.rs (rsOf r) (by have := rs_good (g :: r); simpa [rsOf] using this) x hx2
      have el : (rsOf r).length + 1 = (g :: r).length := by simp [rsOf]
      rw [el] at h
      have e2 : g.rs :: rsOf r = rsOf (g :: r) := rfl
      rw [e2] at h
      have e3 : g.rs.base = g.base := rfl
      rw [e3] at h
      have hk : imGood (g :: r).length x (rsOf (g :: r)) g.base = decide (spS (g :: r).length 0 (rsOf (g :: r)) (-1) 0 = some x) := by
        unfold imGood
        cases hm : imF (g :: r).length 0 (rsOf (g :: r)) g.base [] with
        | none =>
          symm
          apply decide_eq_false
          rw [h, hm]
          simp
        | some p =>
          obtain ⟨nx, all⟩ := p
          rw [hm] at h
          simp only
          by_cases hc : nx = x ∧ goodLog all = true
          · rw [decide_eq_true hc.1, hc.2, decide_eq_true (h.2 ⟨all, by rw [hc.1], hc.2⟩)]; rfl
          · have hno : decide (spS (g :: r).length 0 (rsOf (g :: r)) (-1) 0 = some x) = false := decide_eq_false (fun hh => hc (by
              obtain ⟨al, e, hg⟩ := h.1 hh
              simp only [Option.some.injEq, Prod.mk.injEq] at e
              exact ⟨e.1, by rw [e.2]; exact hg⟩))
            rw [hno]
            cases hd : decide (nx = x) with
            | false => rfl
            | true =>
              cases hg : goodLog all with
              | false => rfl
              | true => exact absurd ⟨of_decide_eq_true hd, hg⟩ hc
      unfold stS
      show _ = (decide ((g :: r).length ≤ 8) && (inB x 0 100000 && imGood (g :: r).length x (rsOf (g :: r)) g.base))
      rw [hk, hx]
      have hL : inB ((g :: r).length : Int) 1 8 = decide ((g :: r).length ≤ 8) := by
        by_cases h8 : (g :: r).length ≤ 8
        · rw [decide_eq_true h8, inB_iff]; simp at *; omega
        · rw [decide_eq_false h8]
          cases hb : inB ((g :: r).length : Int) 1 8 with
          | false => rfl
          | true => have := inB_iff.1 hb; omega
      split
      · rename_i hs
        rw [hs]; simp
      · rename_i nx hs
        rw [hs, hL]
        by_cases hxn : x = nx
        · subst hxn; simp
        · have : nx ≠ x := fun e => hxn e.symm
          simp [hxn, this]

theorem imF_all {n : Nat} : ∀ {r : List Sg} {i : Nat} {next nx : Int} {all all' : List Bt}, imF n i (rsOf r) next all = some (nx, all') → all' = all ++ stAll r
  | [], i, next, nx, all, all', h => by
    simp only [rsOf, List.map_nil, imF, Option.some.injEq, Prod.mk.injEq] at h
    simp [stAll, h.2]
  | g :: r, i, next, nx, all, all', h => by
    simp only [rsOf, List.map_cons] at h
    rw [imF] at h
    split at h
    · have := imF_all (r := r) h
      rw [this]
      have e : g.rs.l = g.l := rfl
      simp [stAll, e]
    · cases h

/-- append onto a row of the call's own, of nil or of cells that lie somewhere. -/
theorem append_anyB {P : Program} (w : World) {ops : Array Oper} {rest : List Oper} {o : Oper} {a : Act} {Q : Exit → Act → World → Prop} (hgd : o.guard = none) (s x : Operand) (t : TypeId)
    (ho : o.op = .call { callee := .builtin .append, args := #[s, x], argTypes := #[t, t] })
    (base : Nat) (e : TypeId) (i : TypeInfo) (z : Value) (size bytes : Nat) (ht : P.underlying t = some (.slice e)) (hi : P.info? e = some i) (hz : i.zero = some z)
    (hsize : i.size = size) (hby : i.bytes = bytes) (hzs : z.cells.size = size) (hsz : 0 < size)
    (v : Value) (n : Nat) (xs : List Value) (hs : a.eval s = v) (hown : w.ownsRow base e size v n xs)
    (sp : Option Addr) (m c : Nat) (news : List Value) (hx : a.eval x = .slice sp m c) (hsrc : (sp = none ∧ m = 0 ∧ (c = 0 ∧ news = []) ) ∨ ∃ ad, sp = some ad ∧ news.length = m * size ∧ ∀ j u, news[j]? = some u → w.cell? (ad.add j) = some u) (h1 : ∀ u ∈ news, u.oneCell' = true)
    (h63 : n + m ≤ maxLen) (hbytes : (n + m) * bytes ≤ 140737488355328) (hbase : base ≤ w.heap.size)
    (h : ∀ v' w', w'.ownsRow base e size v' (n + m) (xs ++ news) → w.grownBy w' v.ownBlock → wpList P ops Q rest (a.put o.dst v') w') : wpList P ops Q (o :: rest) a w := by
  rcases hsrc with ⟨rfl, rfl, rfl, rfl⟩ | ⟨ad, rfl, hl, hnews⟩
  · refine wpList_append_own_none hgd s x t ho base e i size ht hi v n xs hs hown hx (h v w (by simpa using hown) ⟨rfl, rfl, rfl, Nat.le_refl _, fun _ _ _ => rfl⟩)
  · exact wpList_append_own w hgd s x t ho base e i z size bytes ht hi hz hsize hby hzs hsz v n xs hs hown ad m c news hx hl hnews h1 h63 hbytes hbase (fun v' w' k1 k2 _ => h v' w' k1 k2)

/-- The cells of batches that were read, as append takes them. -/
theorem rd_src {w u : World} {a : Option Addr} {c : Nat} {ps : List Q} (h : RdSt w u (.slice a ps.length c) ps) :
    (a = none ∧ ps.length = 0 ∧ (c = 0 ∧ qsCells ps = [])) ∨ ∃ ad, a = some ad ∧ (qsCells ps).length = ps.length * 5 ∧ ∀ j v, (qsCells ps)[j]? = some v → u.cell? (ad.add j) = some v := by
  obtain ⟨h1, ⟨hv, h0⟩ | ⟨g, cap, cur, hv, hg, hh, hnc, hcap, hcs, ht⟩⟩ := h.own
  · simp only [Value.slice.injEq] at hv
    obtain rfl : ps = [] := List.eq_nil_of_length_eq_zero h0
    exact .inl ⟨hv.1, rfl, hv.2.2, rfl⟩
  · simp only [Value.slice.injEq] at hv
    obtain ⟨rfl, -, rfl⟩ := hv
    refine .inr ⟨_, rfl, qsCells_len ps, fun j v hj => ?_⟩
    rw [← ht] at hj
    have hlt := (List.getElem?_eq_some_iff.1 hj).1
    have hlt2 : j < ps.length * 5 := by rw [List.length_take] at hlt; omega
    rw [List.getElem?_take_of_lt hlt2] at hj
    exact World.news_of_block hh j v hj

theorem qCells_oneCell (qs : List Q) : ∀ u ∈ qsCells qs, u.oneCell' = true := by
  induction qs with
  | nil => intro u hu; cases hu
  | cons q r ih =>
    intro u hu
    simp only [qsCells, List.mem_append] at hu
    rcases hu with hu | hu
    · simp only [qCells, List.mem_cons, List.not_mem_nil, or_false] at hu
      rcases hu with rfl | rfl | rfl | rfl | rfl <;> rfl
    · exact ih u hu

/-- Many batches more, which were made since: what they held apart stays apart. -/
theorem rd_join' {w wr u w6 : World} {v v2 v6 : Value} {qs ps : List Q} (h : RdSt w wr v qs) (hp : RdSt wr u v2 ps)
    (hgrow : u.grownBy w6 v.ownBlock) (hown : w6.ownsRow w.heap.size 43 5 v6 (qs.length + ps.length) (qsCells qs ++ qsCells ps)) :
    RdSt w w6 v6 (qs ++ ps) := by
  have hu := hp.bel
  have hbs := h.bel.size
  have hus := hu.size
  have hold : ∀ p, p ∈ qs → ∀ k, p.blk = some k → k < wr.heap.size := fun p hp k hk => ((h.recs p hp).1.lt k hk).2
  have hnew : ∀ p, p ∈ ps → ∀ k, p.blk = some k → wr.heap.size ≤ k ∧ k < u.heap.size := fun p hm k hk => (hp.recs p hm).1.lt k hk
  have hvl : ∀ k, v.ownBlock = some k → k < wr.heap.size := fun k hk => (h.own.lt k hk).2
  have hrecs : ∀ q, q ∈ qs ++ ps → w6.ownsRow w.heap.size 9 1 (.slice q.a q.b.recs.length q.c) q.b.recs.length (strVals q.b.recs) ∧ (∀ s, s ∈ q.b.recs → s.size < 256) ∧ q.b.recs.length ≤ 8 := by
    intro p hm
    rcases List.mem_append.1 hm with hm | hm
    · refine ⟨ownsR_of_block (h.recs p hm).1 (fun k hk => ?_), (h.recs p hm).2⟩
      have hk2 := hold p hm k hk
      rw [hgrow.block k (by omega) (fun e => h.gne p hm k hk e.symm), hu.block k hk2]
    · refine ⟨owns_mono (ownsR_of_block (hp.recs p hm).1 (fun k hk => ?_)) hbs, (hp.recs p hm).2⟩
      have hk2 := hnew p hm k hk
      exact hgrow.block k hk2.2 (fun e => by have := hvl k e.symm; omega)
  refine ⟨?_, hrecs, ?_, ?_, ?_⟩
  · rw [qsCells_app, List.length_append]
    exact hown
  · intro p hm k hk e
    obtain ⟨-, ⟨hv, -⟩ | ⟨g, cap, cur, hv, -, hh, -⟩⟩ := hown
    · rw [hv] at e; cases e
    · rw [hv] at e
      simp only [Value.ownBlock, Option.some.injEq] at e
      subst e
      obtain ⟨-, ⟨hv2, -⟩ | ⟨g2, cap2, cur2, hv2, -, hh2, -⟩⟩ := (hrecs p hm).1
      · unfold Q.blk at hk; rw [hv2] at hk; cases hk
      · unfold Q.blk at hk
        rw [hv2] at hk
        simp only [Value.ownBlock, Option.some.injEq] at hk
        subst hk
        rw [hh] at hh2
        simp at hh2
  · refine List.pairwise_append.2 ⟨h.dis, hp.dis, fun p hm r hr k hk e => ?_⟩
    have := hold p hm k hk
    have := hnew r hr k e
    omega
  · exact (h.bel.trans (hu.mono h.bel.size)).grown hgrow (by omega) (fun k hk => (h.own.lt k hk).1)

end Go.Proofs.YtomigekigcklfaaDoor
