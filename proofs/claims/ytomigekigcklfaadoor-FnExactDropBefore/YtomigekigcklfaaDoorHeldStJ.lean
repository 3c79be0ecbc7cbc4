/-
  Stores that a call gathers and hands out: their segments' row and each one's marks are the call's own, and lie apart.
  A store that was handed out is marked, and the marks are held: the contracts of markSegmentS, heldSegmentS, markStore, heldStore on it.
  The marks in a store that was handed out are held: the contracts of heldSegmentS and heldStore, and of markStore.
-/
import Derived.Test.YtomigekigcklfaaDoorSgs3
import Derived.Test.YtomigekigcklfaaDoorSeg
import Derived.Test.YtomigekigcklfaaDoorSgMkJ
import Derived.Deep.RegionHeld3
namespace Go.Proofs.YtomigekigcklfaaDoor
open Go.RowKit

/-- A segment, where its marks lie, and how much room they have. -/
structure SgQ where
  g : Sg
  a : Option Addr
  c : Nat

def sqCells (q : SgQ) : List Value := [.int .i64 q.g.base, .string q.g.bytes, .slice q.a q.g.idx.length q.c]
def sqsCells : List SgQ → List Value
  | [] => []
  | q :: r => sqCells q ++ sqsCells r
def sqG (qs : List SgQ) : List Sg := qs.map SgQ.g

theorem sqG_len (qs : List SgQ) : (sqG qs).length = qs.length := by simp [sqG]

theorem sqsCells_app : ∀ xs ys : List SgQ, sqsCells (xs ++ ys) = sqsCells xs ++ sqsCells ys
  | [], ys => rfl
  | q :: r, ys => by simp [sqsCells, sqsCells_app r ys]

theorem sqsCells_len : ∀ xs : List SgQ, (sqsCells xs).length = xs.length * 3
  | [] => rfl
  | q :: r => by simp [sqsCells, sqCells, sqsCells_len r]; omega

theorem sqsCells_get : ∀ (qs : List SgQ) (i : Nat) (q : SgQ), qs[i]? = some q → ∀ j, j < 3 → (sqsCells qs)[i * 3 + j]? = (sqCells q)[j]?
  | [], i, q, h, _, _ => by simp at h
  | p :: r, 0, q, h, j, hj => by
    simp at h; subst h
    simp only [sqsCells, Nat.zero_mul, Nat.zero_add]
    rw [List.getElem?_append_left (by simp [sqCells]; omega)]
  | p :: r, i + 1, q, h, j, hj => by
    have := sqsCells_get r i q (by simpa using h) j hj
    simp only [sqsCells]
    rw [List.getElem?_append_right (by simp [sqCells]; omega), ← this]
    congr 1
    simp [sqCells]; omega

/-- While segments are gathered: what is gathered lies in blocks from B on. -/
structure SgSt (B : Nat) (w wr : World) (v : Value) (qs : List SgQ) : Prop where
  own : wr.ownsRow B 52 3 v qs.length (sqsCells qs)
  mks : ∀ q, q ∈ qs → Ims wr q.a q.g.idx ∧ RowIm wr B q.a q.g.idx.length ∧ q.g.idx.length ≤ maxLen ∧ q.g.bytes.size ≤ maxLen
  dis : qs.Pairwise (fun p q => ∀ k, InBlock p.a p.g.idx.length k → ¬ InBlock q.a q.g.idx.length k)
  bel : Below w.heap.size w wr
  hB : w.heap.size ≤ B ∧ B ≤ wr.heap.size
  caps : ∀ q, q ∈ qs → q.g.idx.length ≤ q.c ∧ (q.a = none → q.c = 0)

theorem sg_start {w wr : World} (h : Below w.heap.size w wr) : SgSt wr.heap.size w wr (.slice none 0 0) [] :=
  ⟨World.ownsRow_nil _ _ _ _, (fun q h => by simp at h), List.Pairwise.nil, h, ⟨h.size, Nat.le_refl _⟩, (fun q h => by simp at h)⟩

/-- A row of segments is no row of marks. -/
theorem sg_types {w : World} {B B' : Nat} {v : Value} {n m : Nat} {xs : List Value} {a : Option Addr} (h : w.ownsRow B 52 3 v n xs) (h' : RowIm w B' a m) (k : Nat) (hk : InBlock a m k) : v.ownBlock ≠ some k := fun e => by
  obtain ⟨h0, o, s, ea⟩ := hk
  obtain ⟨g', m', f', ea', -, -, c', hh', -⟩ := h'.resolve_left (by omega)
  rw [ea'] at ea
  simp only [Option.some.injEq, Addr.mk.injEq] at ea
  obtain ⟨rfl, -, -⟩ := ea
  obtain ⟨-, ⟨hv, -⟩ | ⟨g, cap, cur, hv, -, hh, -⟩⟩ := h
  · rw [hv] at e; cases e
  · rw [hv] at e
    simp only [Value.ownBlock, Option.some.injEq] at e
    subst e
    rw [hh] at hh'
    simp at hh'

theorem own_lt {w : World} {B : Nat} {e : TypeId} {size : Nat} {v : Value} {n : Nat} {xs : List Value} (h : w.ownsRow B e size v n xs) (k : Nat) (hk : v.ownBlock = some k) : B ≤ k ∧ k < w.heap.size := by
  obtain ⟨-, ⟨hv, -⟩ | ⟨g, cap, cur, hv, hg, hh, -⟩⟩ := h
  · rw [hv] at hk; cases hk
  · rw [hv] at hk
    simp only [Value.ownBlock, Option.some.injEq] at hk
    have := (Array.getElem?_eq_some_iff.1 hh).1
    omega

/-- What lies from B on stays where its blocks do. -/
theorem sg_blocks {B : Nat} {w wr u : World} {v : Value} {qs : List SgQ} (h : SgSt B w wr v qs) (hb : ∀ k, B ≤ k → k < wr.heap.size → u.heap[k]? = wr.heap[k]?) (hw : Below w.heap.size w u) (hs : wr.heap.size ≤ u.heap.size) : SgSt B w u v qs := by
  refine ⟨?_, fun q hq => ⟨(h.mks q hq).1.of_block (fun k hk => ?_), (h.mks q hq).2.1.of_block (fun k hk => ?_), (h.mks q hq).2.2⟩, h.dis, hw, ⟨h.hB.1, Nat.le_trans h.hB.2 hs⟩, h.caps⟩
  · obtain ⟨h1, h2 | ⟨g, cap, cur, hv, hg, hh, r⟩⟩ := h.own
    · exact ⟨h1, .inl h2⟩
    · have hlt := (Array.getElem?_eq_some_iff.1 hh).1
      exact ⟨h1, .inr ⟨g, cap, cur, hv, hg, (hb g hg hlt).trans hh, r⟩⟩
  · have := (h.mks q hq).2.1.lt hk; exact hb k this.1 this.2
  · have := (h.mks q hq).2.1.lt hk; exact hb k this.1 this.2

theorem sg_below {B : Nat} {w wr u : World} {v : Value} {qs : List SgQ} (h : SgSt B w wr v qs) (hb : Below wr.heap.size wr u) : SgSt B w u v qs :=
  sg_blocks h (fun k _ hk => hb.block k hk) (h.bel.trans (hb.mono h.bel.size)) hb.size

/-- A store into a block ahead of B. -/
theorem sg_set {B : Nat} {w wr : World} {v : Value} {qs : List SgQ} (h : SgSt B w wr v qs) {N : Nat} (hN : N < B) (hw : w.heap.size ≤ N) (o : Nat) (x : Value) : SgSt B w (wr.setCell ⟨N, o, none⟩ x) v qs :=
  sg_blocks h (fun k hk _ => Below.heap_setCell wr ⟨N, o, none⟩ x k (by simp; omega)) (h.bel.setCell (by simpa using hw) _) (by simp)

theorem sg_mono {B : Nat} {w w0 wr : World} {v : Value} {qs : List SgQ} (h : SgSt B w0 wr v qs) (hb : Below w.heap.size w w0) : SgSt B w wr v qs :=
  ⟨h.own, h.mks, h.dis, hb.trans (h.bel.mono hb.size), ⟨Nat.le_trans hb.size h.hB.1, h.hB.2⟩, h.caps⟩

/-- One segment more. -/
theorem sg_push {B : Nat} {w wr u w6 : World} {v v6 : Value} {qs : List SgQ} {q : SgQ} (h : SgSt B w wr v qs) (hu : Below wr.heap.size wr u)
    (hq : Ims u q.a q.g.idx) (hr : RowIm u wr.heap.size q.a q.g.idx.length) (hl : q.g.idx.length ≤ maxLen) (hz : q.g.bytes.size ≤ maxLen) (hcap : q.g.idx.length ≤ q.c ∧ (q.a = none → q.c = 0))
    (hgrow : u.grownBy w6 v.ownBlock) (hown : w6.ownsRow B 52 3 v6 (qs.length + 1) (sqsCells qs ++ sqCells q)) :
    SgSt B w w6 v6 (qs ++ [q]) := by
  have hus := hu.size
  have hbs := h.hB.2
  have hun := sg_below h hu
  have hst : ∀ k, (∃ p, p ∈ qs ∧ InBlock p.a p.g.idx.length k) ∨ InBlock q.a q.g.idx.length k → w6.heap[k]? = u.heap[k]? := fun k hk => by
    rcases hk with ⟨p, hp, hk⟩ | hk
    · exact hgrow.block k (((hun.mks p hp).2.1.lt hk).2) (fun e => sg_types hun.own (hun.mks p hp).2.1 k hk e.symm)
    · exact hgrow.block k ((hr.lt hk).2) (fun e => by
        have h1 := (hr.lt hk).1
        have h2 := (own_lt h.own k e.symm).2
        omega)
  have hbel : Below w.heap.size w w6 := hun.bel.grown hgrow hun.bel.size (fun k hk => Nat.le_trans h.hB.1 (own_lt h.own k hk).1)
  refine ⟨?_, ?_, ?_, hbel, ⟨h.hB.1, ?_⟩, fun p hp => ?_⟩
  · rw [sqsCells_app, List.length_append, List.length_singleton]
    simpa [sqsCells] using hown
  · intro p hp
    rcases List.mem_append.1 hp with hp | hp
    · exact ⟨(hun.mks p hp).1.of_block (fun k hk => hst k (.inl ⟨p, hp, hk⟩)), (hun.mks p hp).2.1.of_block (fun k hk => hst k (.inl ⟨p, hp, hk⟩)), (hun.mks p hp).2.2⟩
    · simp only [List.mem_singleton] at hp
      subst hp
      exact ⟨hq.of_block (fun k hk => hst k (.inr hk)), (hr.of_block (fun k hk => hst k (.inr hk))).mono hbs, hl, hz⟩
  · refine List.pairwise_append.2 ⟨h.dis, List.pairwise_singleton _ _, fun p hp r hr' k hk e => ?_⟩
    simp only [List.mem_singleton] at hr'
    subst hr'
    have h1 := ((h.mks p hp).2.1.lt hk).2
    have h2 := (hr.lt e).1
    omega
  · have := hgrow.size
    omega
  · rcases List.mem_append.1 hp with hp | hp
    · exact h.caps p hp
    · simp only [List.mem_singleton] at hp
      subst hp
      exact hcap

/-- What was gathered reads as these segments. -/
theorem sg_sgs {B : Nat} {w wr : World} {a : Option Addr} {c : Nat} {qs : List SgQ} (h : SgSt B w wr (.slice a qs.length c) qs) : Sgs wr a (sqG qs) := fun i g hi => by
  have hlt := (List.getElem?_eq_some_iff.1 hi).1
  rw [sqG_len] at hlt
  obtain ⟨q, hq⟩ : ∃ q, qs[i]? = some q := ⟨_, List.getElem?_eq_getElem hlt⟩
  obtain rfl : q.g = g := by simpa [sqG, hq] using hi
  obtain ⟨N, cap, f, hv, hg, hn, hR, hx⟩ := row_of_ownsIm h.own (by omega)
  simp only [Value.slice.injEq] at hv
  obtain ⟨rfl, -, rfl⟩ := hv
  have hm := List.mem_of_getElem? hq
  have cell : ∀ j v, j < 3 → (sqCells q)[j]? = some v → wr.cell? ⟨N, 0 + i * 3 + j, none⟩ = some v := fun j v hj hv => by
    have e := hx (i * 3 + j) (by omega)
    rw [sqsCells_get qs i q hq j hj, hv] at e
    rw [Nat.zero_add, hR.cell (by omega)]
    exact e.symm
  exact ⟨N, 0, rfl, q.a, q.c, cell 0 _ (by omega) rfl, cell 1 _ (by omega) rfl, cell 2 _ (by omega) rfl, (h.mks q hm).1, (h.mks q hm).2.2.1, (h.mks q hm).2.2.2⟩

end Go.Proofs.YtomigekigcklfaaDoor

namespace Go.Proofs.YtomigekigcklfaaDoor
open Go.RowKit

/-- The marked segments, from k on. -/
def markSg : List Sg → Nat → List Sg
  | [], _ => []
  | g :: r, k => ⟨(k : Int), markOf (k + 1), markIms (k + 2) g.idx.length⟩ :: markSg r (k + 2 + 2 * g.idx.length)

theorem markSg_len : ∀ (gs : List Sg) (k : Nat), (markSg gs k).length = gs.length
  | [], _ => rfl
  | g :: r, k => by simp [markSg, markSg_len r]

def kAt (gs : List Sg) (k i : Nat) : Nat := kSg (gs.take i) k

theorem kSg_app : ∀ (xs ys : List Sg) (k : Nat), kSg (xs ++ ys) k = kSg ys (kSg xs k)
  | [], ys, k => rfl
  | g :: r, ys, k => by simp only [List.cons_append, kSg]; exact kSg_app r ys _

theorem kAt_succ {gs : List Sg} {k i : Nat} {g : Sg} (h : gs[i]? = some g) : kAt gs k (i + 1) = kAt gs k i + 2 + 2 * g.idx.length := by
  unfold kAt
  rw [List.take_add_one, h, kSg_app]
  rfl

theorem kAt_all (gs : List Sg) (k : Nat) : kAt gs k gs.length = kSg gs k := by unfold kAt; rw [List.take_length]

theorem kAt_le (gs : List Sg) (k i : Nat) : kAt gs k i ≤ kSg gs k := by
  unfold kAt
  conv => rhs; rw [← List.take_append_drop i gs, kSg_app]
  exact kSg_ge _ _

theorem kAt_ge (gs : List Sg) (k i : Nat) : k ≤ kAt gs k i := kSg_ge _ _

theorem markSg_get : ∀ (gs : List Sg) (k i : Nat) (g : Sg), gs[i]? = some g → (markSg gs k)[i]? = some ⟨((kAt gs k i : Nat) : Int), markOf (kAt gs k i + 1), markIms (kAt gs k i + 2) g.idx.length⟩
  | [], k, i, g, h => by simp at h
  | x :: r, k, 0, g, h => by
    simp at h; subst h
    simp [markSg, kAt, kSg]
  | x :: r, k, i + 1, g, h => by
    have := markSg_get r (k + 2 + 2 * x.idx.length) i g (by simpa using h)
    simp only [markSg, List.getElem?_cons_succ, this, kAt, List.take_succ_cons, kSg]

theorem digitsTo_len : ∀ (k : Nat) (l : List UInt8), (digitsTo k l).length ≤ k + l.length := fun k => by
  induction k using Nat.strongRecOn with
  | _ k ih =>
    intro l
    by_cases h : 0 < k
    · rw [digitsTo_pos h]
      have := ih (k / 10) (by omega) (UInt8.ofNat (48 + k % 10) :: l)
      simp only [List.length_cons] at this
      omega
    · obtain rfl : k = 0 := by omega
      rw [digitsTo_zero]
      omega

theorem markOf_size (k : Nat) : (markOf k).size ≤ k + 1 := by
  unfold markOf
  rw [mkStr_len, List.length_cons]
  have := digitsTo_len k []
  simp at this
  omega

theorem kSg_long : ∀ (l : List Sg) (k : Nat), k + 2 * l.length ≤ kSg l k
  | [], k => by simp [kSg]
  | g :: r, k => by have := kSg_long r (k + 2 + 2 * g.idx.length); simp only [kSg, List.length_cons]; omega

set_option maxRecDepth 100000 in
set_option maxHeartbeats 4000000 in
theorem markSegmentS_ans (a : Option Addr) (c k : Nat) (qs : List SgQ) (B : Nat) (w0 w : World) (h : SgSt B w0 w (.slice a qs.length c) qs) (h1 : 1 ≤ k) (h2 : kSg (sqG qs) k ≤ 1000000000) :
    Calls Tryd.prog 34 #[.slice a qs.length c, .int .i64 k] w fun r w' => r = .returned (.int .i64 ((kSg (sqG qs) k : Nat) : Int)) ∧ Sgs w' a (markSg (sqG qs) k) ∧ Below B w w' ∧ ∀ b, b < w.heap.size → (Value.slice a qs.length c).ownBlock ≠ some b → (∀ q, q ∈ qs → ¬ InBlock q.a q.g.idx.length b) → w'.heap[b]? = w.heap[b]? := by
  have hlen : qs.length ≤ 1000000000 := by have := kSg_long (sqG qs) k; rw [sqG_len] at this; omega
  by_cases h0 : qs.length = 0
  · obtain rfl : qs = [] := List.eq_nil_of_length_eq_zero h0
    clear h h0
    go_enter Tryd.func34, Tryd.ntmps34
    go_wp2
    go_loopw [1, 5] (fun c i wr => c = .int .i64 (k : Int) ∧ i = .int .i64 0 ∧ w = wr) (fun _ _ _ => 0)
    case atStart => exact ⟨rfl, rfl, rfl⟩
    case round =>
      obtain ⟨rfl, rfl, rfl⟩ := hrel
      go_wp2
      go_ret
      exact ⟨ret_int (by simp [sqG, kSg]), (fun i s hi => by simp [sqG, markSg] at hi), Below.refl _ _, fun _ _ _ _ => rfl⟩
  obtain ⟨N, cap, f, hv, hg, hn, hR, hx⟩ := row_of_ownsIm h.own (by omega)
  simp only [Value.slice.injEq] at hv
  obtain ⟨rfl, -, rfl⟩ := hv
  have hcap : qs.length * 3 ≤ c * 3 := Nat.mul_le_mul_right _ hn
  have hent : ∀ i q, qs[i]? = some q → f (i * 3) = .int .i64 q.g.base ∧ f (i * 3 + 1) = .string q.g.bytes ∧ f (i * 3 + 2) = .slice q.a q.g.idx.length q.c := fun i q hq => by
    have hlt := (List.getElem?_eq_some_iff.1 hq).1
    have e : ∀ j v, j < 3 → (sqCells q)[j]? = some v → f (i * 3 + j) = v := fun j v hj hv => by
      have e := hx (i * 3 + j) (by omega)
      rw [sqsCells_get qs i q hq j hj, hv] at e
      simpa using e.symm
    exact ⟨e 0 _ (by omega) rfl, e 1 _ (by omega) rfl, e 2 _ (by omega) rfl⟩
  have hfarN : ∀ q, q ∈ qs → ¬ InBlock q.a q.g.idx.length N := fun q hq hk => sg_types h.own (h.mks q hq).2.1 N hk rfl
  have HFN : Hid (∀ q, q ∈ qs → ¬ InBlock q.a q.g.idx.length N) := hfarN
  have HDI : Hid (qs.Pairwise (fun p q => ∀ k, InBlock p.a p.g.idx.length k → ¬ InBlock q.a q.g.idx.length k)) := h.dis
  have HRO : Hid (∀ q, q ∈ qs → RowIm w B q.a q.g.idx.length) := fun q hq => (h.mks q hq).2.1
  have HEN : Hid (∀ i q, qs[i]? = some q → f (i * 3) = .int .i64 q.g.base ∧ f (i * 3 + 1) = .string q.g.bytes ∧ f (i * 3 + 2) = .slice q.a q.g.idx.length q.c) := hent
  have hBw := h.hB.2
  clear h h0 hx hent hfarN
  go_enter Tryd.func34, Tryd.ntmps34
  go_wp2
  go_loopw [1, 5] (fun kv i wr => ∃ (j : Nat) (f' : Nat → Value), j ≤ qs.length ∧ kv = .int .i64 ((kAt (sqG qs) k j : Nat) : Int) ∧ i = .int .i64 (j : Int) ∧ wr.rowIs N 52 (c * 3) f' ∧
    Hid (∀ i q, qs[i]? = some q → (j ≤ i → f' (i * 3) = .int .i64 q.g.base ∧ f' (i * 3 + 1) = .string q.g.bytes) ∧ f' (i * 3 + 2) = .slice q.a q.g.idx.length q.c ∧ RowIm wr B q.a q.g.idx.length ∧ (i < j → f' (i * 3) = .int .i64 ((kAt (sqG qs) k i : Nat) : Int) ∧ f' (i * 3 + 1) = .string (markOf (kAt (sqG qs) k i + 1)) ∧ Ims wr q.a (markIms (kAt (sqG qs) k i + 2) q.g.idx.length))) ∧ w.heap.size ≤ wr.heap.size ∧ Below B w wr ∧ Hid (∀ b, b < w.heap.size → b ≠ N → (∀ q, q ∈ qs → ¬ InBlock q.a q.g.idx.length b) → wr.heap[b]? = w.heap[b]?)) (fun _ i _ => qs.length - (intOf i).toNat)
  case atStart => exact ⟨0, f, Nat.zero_le _, rfl, rfl, hR, (fun i q hq => ⟨fun _ => ⟨(HEN.out i q hq).1, (HEN.out i q hq).2.1⟩, (HEN.out i q hq).2.2, HRO.out q (List.mem_of_getElem? hq), fun h => absurd h (Nat.not_lt_zero _)⟩), Nat.le_refl _, Below.refl _ _, (fun _ _ _ _ => rfl)⟩
  case round =>
    clear hR
    obtain ⟨j, f', hj, rfl, rfl, hR, HE, hsz, hB, HUT⟩ := hrel
    by_cases hlt : j < qs.length
    · obtain ⟨q, hjq⟩ : ∃ q, qs[j]? = some q := ⟨_, List.getElem?_eq_getElem hlt⟩
      have hjg : (sqG qs)[j]? = some q.g := by simp [sqG, hjq]
      have hks := kAt_succ (k := k) hjg
      have hkl := kAt_le (sqG qs) k (j + 1)
      have hkg := kAt_ge (sqG qs) k j
      obtain ⟨e01, e2, hRo, -⟩ := HE.out j q hjq
      obtain ⟨e0, e1⟩ := e01 (Nat.le_refl _)
      have c0 := hR.cell (i := j * 3) (by omega)
      have c1 := hR.cell (i := j * 3 + 1) (by omega)
      have c2 := hR.cell (i := j * 3 + 2) (by omega)
      rw [e0] at c0
      rw [e1] at c1
      rw [e2] at c2
      have f0 := hR.frozen
      have HJ : Hid (qs[j]? = some q) := hjq
      obtain ⟨kk, hkk⟩ : ∃ kk, kAt (sqG qs) k j = kk := ⟨_, rfl⟩
      have HKK : Hid (kAt (sqG qs) k j = kk) := hkk
      have HKS : Hid (kAt (sqG qs) k (j + 1) = kk + 2 + 2 * q.g.idx.length) := by show _ = _; rw [hks, hkk]
      rw [hkk] at hkg
      have hkb : kk + 2 + 2 * q.g.idx.length ≤ 1000000000 := by have := HKS.out; omega
      rw [hkk]
      have hR1 := hR.set (j * 3) (.int .i64 (kk : Int))
      have hK1 : Keeps wr (wr.setCell ⟨N, j * 3, none⟩ (.int .i64 (kk : Int))) := Keeps.set _ _ _ _
      have HB : Hid (Below B w wr) := hB
      clear hjq hjg hks hkl hkk hB
      go_wp2_with fail
      refine (markText_any (kk + 1) _ (by omega) (by omega)).mono ?_
      rintro r w1 ⟨rfl, -, hB1⟩
      have hR1w := hR1.of_block (hB1.block _ hR1.lt)
      have d1 : w1.cell? ⟨N, j * 3 + 1, none⟩ = some (.string q.g.bytes) := by rw [hR1w.cell (by omega), if_neg (by omega), e1]
      have d2 : w1.cell? ⟨N, j * 3 + 2, none⟩ = some (.slice q.a q.g.idx.length q.c) := by rw [hR1w.cell (by omega), if_neg (by omega), e2]
      have g1 := hR1w.frozen
      have hR2 := hR1w.set (j * 3 + 1) (.string (markOf (kk + 1)))
      have hK2 := (hK1.trans (Keeps.below hB1)).trans (Keeps.set w1 N (j * 3 + 1) (.string (markOf (kk + 1))))
      have hF2 := hRo.keeps hK2
      have hb1 := hB1.size
      simp only [World.size_setCell] at hb1
      have HB1 : Hid (Below (wr.setCell ⟨N, j * 3, none⟩ (.int .i64 (kk : Int))).heap.size (wr.setCell ⟨N, j * 3, none⟩ (.int .i64 (kk : Int))) w1) := hB1
      have hst : ∀ b, b < wr.heap.size → b ≠ N → (w1.setCell ⟨N, j * 3 + 1, none⟩ (.string (markOf (kk + 1)))).heap[b]? = wr.heap[b]? := fun b hb hne => by
        rw [Below.heap_setCell _ ⟨N, j * 3 + 1, none⟩ _ b (by simpa using hne), hB1.block b (by simpa using hb), Below.heap_setCell _ ⟨N, j * 3, none⟩ _ b (by simpa using hne)]
      have HST : Hid (∀ b, b < wr.heap.size → b ≠ N → (w1.setCell ⟨N, j * 3 + 1, none⟩ (.string (markOf (kk + 1)))).heap[b]? = wr.heap[b]?) := hst
      clear c0 c1 c2 f0 hR hR1 hR1w hK1 hB1 hst e01
      go_wp2_with fail
      refine (markMarkS_any q.a q.c q.g.idx.length B (kk + 2) _ hF2 (by omega)).mono ?_
      rintro r w3 ⟨rfl, HIm, hRw, hB3, hO3⟩
      have hfN := HFN.out q (List.mem_of_getElem? HJ.out)
      have hR3 := hR2.of_block (hO3 N (by have := hR2.lt; exact this) hfN)
      have hwr : wr.heap.size ≤ (w1.setCell ⟨N, j * 3 + 1, none⟩ (.string (markOf (kk + 1)))).heap.size := by simp; omega
      have HEN2 : Hid (∀ i p, qs[i]? = some p → (j + 1 ≤ i → (fun x => if x = j * 3 + 1 then Value.string (markOf (kk + 1)) else if x = j * 3 then Value.int .i64 (kk : Int) else f' x) (i * 3) = .int .i64 p.g.base ∧ (fun x => if x = j * 3 + 1 then Value.string (markOf (kk + 1)) else if x = j * 3 then Value.int .i64 (kk : Int) else f' x) (i * 3 + 1) = .string p.g.bytes) ∧ (fun x => if x = j * 3 + 1 then Value.string (markOf (kk + 1)) else if x = j * 3 then Value.int .i64 (kk : Int) else f' x) (i * 3 + 2) = .slice p.a p.g.idx.length p.c ∧ RowIm w3 B p.a p.g.idx.length ∧ (i < j + 1 → (fun x => if x = j * 3 + 1 then Value.string (markOf (kk + 1)) else if x = j * 3 then Value.int .i64 (kk : Int) else f' x) (i * 3) = .int .i64 ((kAt (sqG qs) k i : Nat) : Int) ∧ (fun x => if x = j * 3 + 1 then Value.string (markOf (kk + 1)) else if x = j * 3 then Value.int .i64 (kk : Int) else f' x) (i * 3 + 1) = .string (markOf (kAt (sqG qs) k i + 1)) ∧ Ims w3 p.a (markIms (kAt (sqG qs) k i + 2) p.g.idx.length))) := fun i p hp => by
        obtain ⟨u01, u2, uR, uM⟩ := HE.out i p hp
        by_cases e : i = j
        · subst e
          obtain rfl : q = p := by have := HJ.out.symm.trans hp; simpa using this
          refine ⟨fun h => absurd h (by omega), ?_, hRw, fun _ => ⟨?_, ?_, ?_⟩⟩
          · simp only; rw [if_neg (by omega), if_neg (by omega), u2]
          · simp only; rw [if_neg (by omega)]; simp [HKK.out]
          · simp [HKK.out]
          · rw [HKK.out]; exact HIm
        · have hne : ∀ b, InBlock p.a p.g.idx.length b → ¬ InBlock q.a q.g.idx.length b := fun b hb hb' => by
            have hi := (List.getElem?_eq_some_iff.1 hp).1
            have hj' := (List.getElem?_eq_some_iff.1 HJ.out).1
            rcases Nat.lt_or_gt_of_ne e with hlt' | hlt'
            · have := List.pairwise_iff_getElem.1 HDI.out i j hi hj' hlt'
              rw [(List.getElem?_eq_some_iff.1 hp).2, (List.getElem?_eq_some_iff.1 HJ.out).2] at this
              exact this b hb hb'
            · have := List.pairwise_iff_getElem.1 HDI.out j i hj' hi hlt'
              rw [(List.getElem?_eq_some_iff.1 hp).2, (List.getElem?_eq_some_iff.1 HJ.out).2] at this
              exact this b hb' hb
          have hkeep : ∀ b, InBlock p.a p.g.idx.length b → w3.heap[b]? = wr.heap[b]? := fun b hb => by
            have hbl := (uR.lt hb).2
            have hbN : b ≠ N := fun e => HFN.out p (List.mem_of_getElem? hp) (e ▸ hb)
            rw [hO3 b (by omega) (hne b hb), HST.out b hbl hbN]
          refine ⟨fun h => ?_, ?_, uR.of_block hkeep, fun h => ?_⟩
          · obtain ⟨v0, v1⟩ := u01 (by omega)
            simp only
            rw [if_neg (by omega), if_neg (by omega), if_neg (by omega), if_neg (by omega)]
            exact ⟨v0, v1⟩
          · simp only; rw [if_neg (by omega), if_neg (by omega), u2]
          · obtain ⟨v0, v1, v2⟩ := uM (by omega)
            simp only
            rw [if_neg (by omega), if_neg (by omega), if_neg (by omega), if_neg (by omega)]
            refine ⟨v0, v1, v2.of_block (fun b hb => hkeep b ?_)⟩
            rwa [markIms_length] at hb
      have HBN : Hid (Below B w w3) := ((((HB.out.setCell hg _).trans (HB1.out.mono (by simp; omega))).setCell hg _)).trans hB3
      have hsz3 : w.heap.size ≤ w3.heap.size := by have := hB3.size; omega
      have HUT3 : Hid (∀ b, b < w.heap.size → b ≠ N → (∀ q, q ∈ qs → ¬ InBlock q.a q.g.idx.length b) → w3.heap[b]? = w.heap[b]?) := fun b hb hbN hq => by
        rw [hO3 b (by omega) (hq q (List.mem_of_getElem? HJ.out)), HST.out b (by omega) hbN]
        exact HUT.out b hb hbN hq
      have HR3 : Hid (w3.rowIs N 52 (c * 3) (fun x => if x = j * 3 + 1 then Value.string (markOf (kk + 1)) else if x = j * 3 then Value.int .i64 (kk : Int) else f' x)) := hR3
      clear hB3 hO3 hR3 hR2 hK2 hF2 d1 d2 g1 HB1 HB HE hRo hRw HIm HST hfN hwr
      go_wp2
      go_roundw
      case rel => exact ⟨j + 1, _, by omega, by rw [HKS.out]; go_num, by go_num, HR3.out, HEN2, hsz3, HBN.out, HUT3⟩
      case measure => simp [intOf]; omega
    · obtain rfl : j = qs.length := by omega
      have HK : Hid (kAt (sqG qs) k qs.length = kSg (sqG qs) k) := by show _ = _; rw [← sqG_len, kAt_all]
      have HS : Hid (Sgs wr (some ⟨N, 0, none⟩) (markSg (sqG qs) k)) := fun i x hi => by
        have hlt' := (List.getElem?_eq_some_iff.1 hi).1
        rw [markSg_len, sqG_len] at hlt'
        obtain ⟨q, hq⟩ : ∃ q, qs[i]? = some q := ⟨_, List.getElem?_eq_getElem hlt'⟩
        have hgq : (sqG qs)[i]? = some q.g := by simp [sqG, hq]
        rw [markSg_get (sqG qs) k i q.g hgq] at hi
        simp only [Option.some.injEq] at hi
        subst hi
        obtain ⟨-, u2, uR, uM⟩ := HE.out i q hq
        obtain ⟨v0, v1, v2⟩ := uM hlt'
        have hk1 := kAt_succ (k := k) hgq
        have hk2 := kAt_le (sqG qs) k (i + 1)
        refine ⟨N, 0, rfl, q.a, q.c, ?_, ?_, ?_, v2, ?_, ?_⟩
        · rw [Nat.zero_add, hR.cell (by omega), v0]
        · rw [Nat.zero_add, hR.cell (by omega), v1]
        · rw [Nat.zero_add, hR.cell (by omega), u2]; simp only [markIms_length]
        · simp only [markIms_length]; unfold maxLen; omega
        · have := markOf_size (kAt (sqG qs) k i + 1)
          simp only
          unfold maxLen
          omega
      go_wp2
      go_ret
      exact ⟨ret_int (by rw [HK.out]), HS.out, hB, fun b hb hne hq => HUT.out b hb (fun e => hne (by rw [e]; rfl)) hq⟩

end Go.Proofs.YtomigekigcklfaaDoor

namespace Go.Proofs.YtomigekigcklfaaDoor
open Go.RowKit

set_option maxRecDepth 100000 in
set_option maxHeartbeats 2000000 in
theorem heldSegmentS_any (a : Option Addr) (c k : Nat) (gs : List Sg) (w : World) (h : Sgs w a (markSg gs k)) (h1 : 1 ≤ k) (h2 : kSg gs k ≤ 1000000000) :
    Calls Tryd.prog 36 #[.slice a gs.length c, .int .i64 k] w fun r w' => r = .returned (.int .i64 ((kSg gs k : Nat) : Int)) ∧ Below w.heap.size w w' := by
  have hlen : gs.length ≤ 1000000000 := by have := kSg_long gs k; omega
  have HS : Hid (Sgs w a (markSg gs k)) := h
  clear h
  go_enter Tryd.func36, Tryd.ntmps36
  go_wp2
  go_loopw [1, 5] (fun kv i wr => ∃ j : Nat, j ≤ gs.length ∧ kv = .int .i64 ((kAt gs k j : Nat) : Int) ∧ i = .int .i64 (j : Int) ∧ Below w.heap.size w wr) (fun _ i _ => gs.length - (intOf i).toNat)
  case atStart => exact ⟨0, Nat.zero_le _, rfl, rfl, Below.refl _ _⟩
  case round =>
    obtain ⟨j, hj, rfl, rfl, hB⟩ := hrel
    by_cases hlt : j < gs.length
    · obtain ⟨g, hjg⟩ := getSg hlt
      have hks := kAt_succ (k := k) hjg
      have hkl := kAt_le gs k (j + 1)
      have hkg := kAt_ge gs k j
      obtain ⟨kb, ob, hav, ra, rc, c0, c1, c2, hix, -, -⟩ := (HS.out.below hB) j _ (markSg_get gs k j g hjg)
      simp only [markIms_length] at c2
      subst hav
      obtain ⟨kk, hkk⟩ : ∃ kk, kAt gs k j = kk := ⟨_, rfl⟩
      rw [hkk] at c0 c1 hix hks hkg ⊢
      have HKS : Hid (kAt gs k (j + 1) = kk + 2 + 2 * g.idx.length) := hks
      have HIX : Hid (Ims wr ra (markIms (kk + 2) g.idx.length)) := hix
      have hkb : kk + 2 + 2 * g.idx.length ≤ 1000000000 := by omega
      have hne : ((kk : Int) != (kk : Int)) = false := by simp
      have hns : (!(markOf (kk + 1)).toList == (markOf (kk + 1)).toList) = false := by simp
      have jI : (j : Int) < (gs.length : Int) := by omega
      have j0 : (0 : Int) ≤ (j : Int) := by omega
      clear hjg hkl hks hix hkk
      go_wp2_with fail
      have kk0 : wr.drew.cell? ⟨kb, ob + j * 3 + 1, none⟩ = some (.string (markOf (kk + 1))) := c1
      go_region_held3 (fun w' => w'.cell? ⟨kb, ob + j * 3 + 1, none⟩ = some (.string (markOf (kk + 1))))
        (first | exact kk0 | exact kk1 | go_keep)
        (first
          | (go_at_call 35; refine (markText_any (kk + 1) _ (by omega) (by omega)).mono ?_; rintro r w1 ⟨rfl, -, hB1⟩; have kk1 : w1.cell? ⟨kb, ob + j * 3 + 1, none⟩ = some (.string (markOf (kk + 1))) := (hB1.cell (p := ⟨kb, ob + j * 3 + 1, none⟩) (lt_of_cell kk0)).trans kk0))
      have B1 : Below wr.heap.size wr w1 := ((Below.refl wr.heap.size wr).drew).trans (hB1.mono (by simp))
      have d2 : w1.cell? ⟨kb, ob + j * 3 + 2, none⟩ = some (.slice ra g.idx.length rc) := (B1.cell (p := ⟨kb, ob + j * 3 + 2, none⟩) (lt_of_cell c2)).trans c2
      have HIX1 := HIX.out.below B1
      have BN := hB.trans (B1.mono hB.size)
      clear kk0 kk1 hB1 B1 c0 c1 c2 HIX
      go_wp2_with fail
      refine (heldMarkS_any ra rc g.idx.length (kk + 2) _ HIX1 (by omega)).mono ?_
      rintro r w2 ⟨rfl, hw2⟩
      subst hw2
      have hpos : ¬ (((kk + 2 + 2 * g.idx.length : Nat) : Int) < 0) := by omega
      clear HIX1 d2
      go_wp2
      go_roundw
      case rel => exact ⟨j + 1, by omega, by rw [HKS.out]; go_num, by go_num, BN⟩
      case measure => simp [intOf]; omega
    · obtain rfl : j = gs.length := by omega
      have HK : Hid (kAt gs k gs.length = kSg gs k) := kAt_all gs k
      go_wp2
      go_ret
      exact ⟨ret_int (by rw [HK.out]), hB⟩

set_option maxHeartbeats 1000000 in
theorem heldStore_any (a : Option Addr) (c : Nat) (x : Int) (gs : List Sg) (w : World) (h : Sgs w a (markSg gs 1)) (h2 : kSg gs 1 ≤ 1000000000) :
    Calls Tryd.prog 16 #[.agg #[.slice a gs.length c, .int .i64 x], .int .i64 1] w fun r w' => r = .returned (.int .i64 ((kSg gs 1 : Nat) : Int)) ∧ Below w.heap.size w w' := by
  have hb0 : ∀ o, Below w.heap.size w (w.alloc o) := fun o => (Below.refl _ _).alloc (Nat.le_refl _) o
  have h0 := fun o => h.below (hb0 o)
  have hpos : ¬ (((kSg gs 1 : Nat) : Int) < 0) := by omega
  clear h
  go_enter Tryd.func16, Tryd.ntmps16
  go_wp2_with fail
  refine (heldSegmentS_any _ _ 1 gs _ (h0 _) (by omega) h2).mono ?_
  rintro r w1 ⟨rfl, hB⟩
  have BB := (hb0 _).trans (hB.mono (hb0 _).size)
  clear hB h0
  go_wp2
  go_ret
  exact ⟨rfl, BB⟩

set_option maxHeartbeats 1000000 in
theorem markStore_ans (a : Option Addr) (c : Nat) (x : Int) (qs : List SgQ) (B : Nat) (w0 w : World) (h : SgSt B w0 w (.slice a qs.length c) qs) (h2 : kSg (sqG qs) 1 ≤ 1000000000) :
    Calls Tryd.prog 14 #[.agg #[.slice a qs.length c, .int .i64 x], .int .i64 1] w fun r w' => r = .returned (.int .i64 ((kSg (sqG qs) 1 : Nat) : Int)) ∧ Sgs w' a (markSg (sqG qs) 1) ∧ Below B w w' ∧ ∀ b, b < w.heap.size → (Value.slice a qs.length c).ownBlock ≠ some b → (∀ q, q ∈ qs → ¬ InBlock q.a q.g.idx.length b) → w'.heap[b]? = w.heap[b]? := by
  have hb0 : ∀ o, Below w.heap.size w (w.alloc o) := fun o => (Below.refl _ _).alloc (Nat.le_refl _) o
  have h0 := fun o => sg_below h (hb0 o)
  have hB2 := h.hB.2
  clear h
  go_enter Tryd.func14, Tryd.ntmps14
  go_wp2_with fail
  refine (markSegmentS_ans _ _ 1 qs B _ _ (h0 _) (by omega) h2).mono ?_
  rintro r w1 ⟨rfl, hS, hB, hU⟩
  have BB := ((hb0 _).mono hB2).trans hB
  have HU : Hid (∀ b, b < w.heap.size → (Value.slice a qs.length c).ownBlock ≠ some b → (∀ q, q ∈ qs → ¬ InBlock q.a q.g.idx.length b) → w1.heap[b]? = w.heap[b]?) := fun b h1 h2 h3 => (hU b (by simp; omega) h2 h3).trans ((hb0 _).block b h1)
  have HS : Hid (Sgs w1 a (markSg (sqG qs) 1)) := hS
  clear hB hS h0 hU
  go_wp2
  go_ret
  exact ⟨rfl, HS.out, BB, HU.out⟩

end Go.Proofs.YtomigekigcklfaaDoor
