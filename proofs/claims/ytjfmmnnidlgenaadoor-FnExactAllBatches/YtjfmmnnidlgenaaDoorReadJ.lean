/-
  One batch taken at a place, the specification's side: the contracts of spec.l1Take and spec.TakeBatch at every text and place; what both sides take is the same.
  The walk of the law FnExactTakeBatch: at every text and place it answers true and leaves what was there as it was, where the sum's table is laid.
  Logs read from bytes: what is read, and what holds in memory while batches are read one behind the other.
-/
import Derived.Test.YtjfmmnnidlgenaaDoorSpecTake2
import Derived.Test.YtjfmmnnidlgenaaDoorBytesJ
import Derived.Test.YtjfmmnnidlgenaaDoorLogs2J
import Derived.Deep.AppendLies
namespace Go.Proofs.YtjfmmnnidlgenaaDoor
open Go.RowKit

theorem l1Take_any (s : ByteArray) (n : Nat) (w : World) (hs : s.size ≤ 2000000) (hn : n ≤ s.size) :
    Calls Tryd.prog 41 #[.string s, .int .i64 n] w fun r w' => ∃ b a c z, r = .returned (.tuple #[.agg #[.int .i64 b.off, .int .i64 b.ep, .int .i64 b.pr, .int .i64 b.sq, .slice a b.recs.length c], .int .i64 z]) ∧ TookS s.data.toList n w.heap.size w' b a c z ∧ Below w.heap.size w w' := by
  by_cases h : 14 ≤ s.size - n ∧ lenOf (s.data.toList.drop n) ≤ s.size - n
  · exact l1Take_main s n w hs hn h.1 h.2
  · exact l1Take_short s n w hs hn h

theorem implDec_read (t : List UInt8) : implDec t = if crcOf (t.take (t.length - 2)) = val (t.drop (t.length - 2)) then readDec t else none := rfl

/-- The two sides take the same. -/
theorem take_same {l : List UInt8} {n : Nat} (hl : l.length ≤ 600) (hn : n ≤ l.length) : takeOf l (n : Int) = specTake l n := by
  unfold takeOf specTake
  rw [if_pos ⟨hl, by omega, by omega⟩, Int.toNat_natCast]
  generalize l.drop n = r
  by_cases h : 14 ≤ r.length ∧ lenOf r ≤ r.length
  · rw [if_pos h]
    by_cases h14 : 14 ≤ lenOf r
    · have hd := dec_same (r := r) h.2 h14
      have e0 : 2 + val (r.take 2) = lenOf r := rfl
      rw [e0] at hd
      have hlen : (r.take (lenOf r)).length = lenOf r := by rw [List.length_take]; omega
      rw [implDec_read, hlen] at hd
      have e1 : (r.take (lenOf r)).take (lenOf r - 2) = r.take (lenOf r - 2) := by rw [List.take_take]; congr 1; omega
      have e2 : (r.take (lenOf r)).drop (lenOf r - 2) = (r.drop (lenOf r - 2)).take 2 := by rw [List.drop_take]; congr 1; omega
      rw [e1, e2] at hd
      by_cases hc : crcOf (r.take (lenOf r - 2)) = val ((r.drop (lenOf r - 2)).take 2)
      · have hw : wholeOk r = true := by simp only [wholeOk, decide_eq_true_eq]; exact ⟨h.1, h14, h.2, hc⟩
        rw [if_pos hc] at hd
        rw [if_pos hw, hd]
      · have hw : ¬ wholeOk r = true := by simp only [wholeOk, decide_eq_true_eq]; exact fun k => hc k.2.2.2
        rw [if_neg hc] at hd
        rw [if_neg hw, ← hd]; rfl
    · have hw : ¬ wholeOk r = true := by simp only [wholeOk, decide_eq_true_eq]; exact fun k => h14 k.2.1
      have e0 : 2 + val (r.take 2) = lenOf r := rfl
      rw [if_neg hw, specDec_short (by rw [e0]; omega)]; rfl
  · have hw : ¬ wholeOk r = true := by simp only [wholeOk, decide_eq_true_eq]; exact fun k => h ⟨k.1, k.2.2.1⟩
    rw [if_neg hw, if_neg h]

/-- What is taken at a place: a batch and where it ends. -/
def tookOf (l : List UInt8) (at_ : Int) : Option (Bt × Nat) := if l.length ≤ 600 ∧ 0 ≤ at_ ∧ at_ < l.length then specTake l at_.toNat else none

theorem tookOf_out {l : List UInt8} {at_ : Int} (h : ¬ (l.length ≤ 600 ∧ 0 ≤ at_ ∧ at_ < l.length)) : tookOf l at_ = none := by unfold tookOf; rw [if_neg h]

theorem specTake_end {l : List UInt8} {n : Nat} (h : l.length ≤ n) : specTake l n = none := by
  unfold specTake
  rw [if_neg]
  rw [List.length_drop]; omega

theorem takeOf_took (l : List UInt8) (at_ : Int) : takeOf l at_ = tookOf l at_ := by
  by_cases h : l.length ≤ 600 ∧ 0 ≤ at_ ∧ at_ < l.length
  · obtain ⟨n, rfl⟩ := Int.eq_ofNat_of_zero_le h.2.1
    rw [take_same h.1 (by omega)]
    unfold tookOf; rw [if_pos h]; rfl
  · rw [tookOf_out h]
    by_cases h2 : l.length ≤ 600 ∧ 0 ≤ at_ ∧ at_ ≤ l.length
    · obtain ⟨n, rfl⟩ := Int.eq_ofNat_of_zero_le h2.2.1
      rw [take_same h2.1 (by omega), specTake_end (by omega)]
    · exact takeOf_out h2

/-- What spec.TakeBatch and impl.TakeBatch answer. -/
def TookT (l : List UInt8) (at_ : Int) (B : Nat) (w' : World) (b : Bt) (a : Option Addr) (c : Nat) (z : Int) (ok : Bool) : Prop :=
  (ok = true ∧ (∃ e : Nat, z = e ∧ tookOf l at_ = some (b, e)) ∧ w'.ownsRow B 9 1 (.slice a b.recs.length c) b.recs.length (strVals b.recs)) ∨ (ok = false ∧ z = 0 ∧ b = ⟨0, 0, 0, 0, []⟩ ∧ a = none ∧ tookOf l at_ = none)

theorem implTakeT_any (s : ByteArray) (at_ : Int) (w : World) (hl : s.size ≤ maxLen) (hT : TabAt w) :
    Calls Tryd.prog 65 #[.string s, .int .i64 at_] w fun r w' => ∃ b a c z ok, r = .returned (.tuple #[.agg #[.int .i64 b.off, .int .i64 b.ep, .int .i64 b.pr, .int .i64 b.sq, .slice a b.recs.length c], .int .i64 z, .bool ok]) ∧ TookT s.data.toList at_ w.heap.size w' b a c z ok ∧ Below w.heap.size w w' := by
  refine (implTake_any s at_ w hl hT).mono ?_
  rintro r w' ⟨b, a, c, z, ok, hr, hb, hB⟩
  refine ⟨b, a, c, z, ok, hr, ?_, hB⟩
  unfold TookB at hb
  rw [takeOf_took] at hb
  exact hb

end Go.Proofs.YtjfmmnnidlgenaaDoor

namespace Go.Proofs.YtjfmmnnidlgenaaDoor
open Go.RowKit

theorem specTake_good {l : List UInt8} {n : Nat} {b : Bt} {e : Nat} (h : specTake l n = some (b, e)) : b.good = true := by
  unfold specTake at h
  split at h
  · cases hd : specDec (l.drop n) with
    | none => rw [hd] at h; simp at h
    | some b' =>
      rw [hd] at h
      simp at h
      rw [← h.1]
      exact ((specDec_iff b').1 hd).1
  · simp at h

theorem tookOf_good {l : List UInt8} {at_ : Int} {b : Bt} {e : Nat} (h : tookOf l at_ = some (b, e)) : b.good = true := by
  unfold tookOf at h
  split at h
  · exact specTake_good h
  · simp at h

theorem good_recs {b : Bt} (h : b.good = true) : b.recs.length ≤ 8 ∧ ∀ s, s ∈ b.recs → s.size ≤ 20 := by
  simp only [Bt.good, Bool.and_eq_true, inB_t] at h
  obtain ⟨⟨⟨⟨⟨h0, h1⟩, h2⟩, h3⟩, h4⟩, h5⟩ := h
  refine ⟨by omega, fun s hs => ?_⟩
  have := List.all_eq_true.1 h0 s hs
  simpa [shortB] using this

/-- What TakeBatch answers. -/
def ansB (l : List UInt8) (at_ : Int) : Bt := match tookOf l at_ with
  | some (b, _) => b
  | none => ⟨0, 0, 0, 0, []⟩
def ansZ (l : List UInt8) (at_ : Int) : Int := match tookOf l at_ with
  | some (_, e) => e
  | none => 0
def ansK (l : List UInt8) (at_ : Int) : Bool := (tookOf l at_).isSome

theorem ansB_len (l : List UInt8) (at_ : Int) : (ansB l at_).recs.length ≤ 8 := by
  unfold ansB
  split
  · rename_i b e h
    exact (good_recs (tookOf_good h)).1
  · simp

theorem row_of_owns {w : World} {B : Nat} {a : Option Addr} {c n : Nat} {xs : List Value} (h : w.ownsRow B 9 1 (.slice a n c) n xs) : RowAt w B a n := by
  obtain ⟨h1, ⟨hv, h0⟩ | ⟨g, cap, cur, hv, hg, hh, hn, hcap, hcs, ht⟩⟩ := h
  · exact .inl h0
  · simp only [Value.slice.injEq] at hv
    obtain ⟨rfl, -, -⟩ := hv
    exact .inr ⟨g, cap, fun j => cur.getD j undef, rfl, hg, hn, cur, hh, by omega, fun i hi => by simp [hcs, hi]⟩

theorem TookT.form {l : List UInt8} {at_ : Int} {B : Nat} {w' : World} {b : Bt} {a : Option Addr} {c : Nat} {z : Int} {ok : Bool} (h : TookT l at_ B w' b a c z ok) :
    b = ansB l at_ ∧ z = ansZ l at_ ∧ ok = ansK l at_ ∧ Strs w' a b.recs ∧ RowAt w' B a b.recs.length := by
  rcases h with ⟨rfl, ⟨e, rfl, he⟩, hown⟩ | ⟨rfl, rfl, rfl, rfl, hn⟩
  · have hg := good_recs (tookOf_good he)
    exact ⟨by unfold ansB; rw [he], by unfold ansZ; rw [he], by unfold ansK; rw [he]; rfl, strs_of_owns hown (fun s hs => by have := hg.2 s hs; omega), row_of_owns hown⟩
  · exact ⟨by unfold ansB; rw [hn], by unfold ansZ; rw [hn], by unfold ansK; rw [hn]; rfl, (fun i s hi => by simp at hi), .inl rfl⟩

theorem implTakeF (s : ByteArray) (at_ : Int) (w : World) (hl : s.size ≤ maxLen) (hT : TabAt w) :
    Calls Tryd.prog 65 #[.string s, .int .i64 at_] w fun r w' => ∃ a c, r = .returned (.tuple #[.agg #[.int .i64 (ansB s.data.toList at_).off, .int .i64 (ansB s.data.toList at_).ep, .int .i64 (ansB s.data.toList at_).pr, .int .i64 (ansB s.data.toList at_).sq, .slice a (ansB s.data.toList at_).recs.length c], .int .i64 (ansZ s.data.toList at_), .bool (ansK s.data.toList at_)]) ∧ Strs w' a (ansB s.data.toList at_).recs ∧ RowAt w' w.heap.size a (ansB s.data.toList at_).recs.length ∧ Below w.heap.size w w' := by
  refine (implTakeT_any s at_ w hl hT).mono ?_
  rintro r w' ⟨b, a, c, z, ok, rfl, hD, hB⟩
  obtain ⟨rfl, rfl, rfl, h1, h2⟩ := hD.form
  exact ⟨a, c, rfl, h1, h2, hB⟩

theorem Below.stepT {W a b : World} (h : Below W.heap.size W a) (k : Below a.heap.size a b) : Below W.heap.size W b := h.trans (k.mono h.size)

theorem Strs.ltT {w : World} {a : Option Addr} {ss : List ByteArray} (h : Strs w a ss) : ∀ b, InBlock a ss.length b → b < w.heap.size := fun b ⟨h0, o, s, e⟩ => by
  obtain ⟨f, hf⟩ := getAt (ss := ss) h0
  obtain ⟨k, o', e', hc, -⟩ := h 0 f hf
  rw [e'] at e
  simp only [Option.some.injEq, Addr.mk.injEq] at e
  have := lt_of_cell hc
  omega

theorem box_off {w w' : World} {a : Option Addr} {n N : Nat} {v0 v1 v2 v3 v4 : Value} (hO : ∀ b, b < w.heap.size → ¬ InBlock a n b → w'.heap[b]? = w.heap[b]?) (hn : ¬ InBlock a n N)
    (h : w.cell? ⟨N, 0, none⟩ = some v0 ∧ w.cell? ⟨N, 1, none⟩ = some v1 ∧ w.cell? ⟨N, 2, none⟩ = some v2 ∧ w.cell? ⟨N, 3, none⟩ = some v3 ∧ w.cell? ⟨N, 4, none⟩ = some v4) :
    w'.cell? ⟨N, 0, none⟩ = some v0 ∧ w'.cell? ⟨N, 1, none⟩ = some v1 ∧ w'.cell? ⟨N, 2, none⟩ = some v2 ∧ w'.cell? ⟨N, 3, none⟩ = some v3 ∧ w'.cell? ⟨N, 4, none⟩ = some v4 := by
  have e := hO N (lt_of_cell h.1) hn
  have c : ∀ i, w'.cell? ⟨N, i, none⟩ = w.cell? ⟨N, i, none⟩ := fun i => World.cell?_of_block (a := ⟨N, i, none⟩) e
  rw [c, c, c, c, c]
  exact h

end Go.Proofs.YtjfmmnnidlgenaaDoor

namespace Go.Proofs.YtjfmmnnidlgenaaDoor
open Go.RowKit

/-- The batches from a place on, as long as there are such and each may follow; and the place behind. -/
def readR (l : List UInt8) : Nat → Option Bt → Nat → List Bt × Nat
  | 0, _, at_ => ([], at_)
  | k + 1, p, at_ => match specTake l at_ with
    | none => ([], at_)
    | some (b, e) => if followB p b = true then (b :: (readR l k (some b) e).1, (readR l k (some b) e).2) else ([], at_)

def readL (l : List UInt8) : List Bt × Nat := readR l (l.length + 1) none 0

theorem specTake_end2 {l : List UInt8} {n : Nat} {b : Bt} {e : Nat} (h : specTake l n = some (b, e)) : n + 2 ≤ e ∧ e ≤ l.length := by
  unfold specTake at h
  split at h
  · rename_i hc
    cases hd : specDec (l.drop n) with
    | none => rw [hd] at h; simp at h
    | some b' =>
      rw [hd] at h
      simp at h
      obtain ⟨-, rfl⟩ := h
      have h2 := hc.2
      have h1 := hc.1
      rw [List.length_drop] at h1 h2
      have : 2 ≤ lenOf (l.drop n) := by unfold lenOf; omega
      omega
  · simp at h

/-- What is left to be read. -/
def LeftR (l : List UInt8) (bs : List Bt) (at_ : Nat) : Prop :=
  at_ ≤ l.length ∧ ∃ k, l.length < at_ + k ∧ readL l = (bs ++ (readR l k bs.getLast? at_).1, (readR l k bs.getLast? at_).2)

theorem left_start (l : List UInt8) : LeftR l [] 0 := ⟨Nat.zero_le _, l.length + 1, by omega, by simp [readL]⟩

theorem left_stop {l : List UInt8} {bs : List Bt} {at_ : Nat} (h : LeftR l bs at_) (hn : specTake l at_ = none ∨ ∃ b e, specTake l at_ = some (b, e) ∧ followB bs.getLast? b = false) : readL l = (bs, at_) := by
  obtain ⟨ha, k, hk, e⟩ := h
  have : readR l k bs.getLast? at_ = ([], at_) := by
    cases k with
    | zero => rfl
    | succ k =>
      rcases hn with hn | ⟨b, e', hn, hf⟩
      · simp [readR, hn]
      · simp [readR, hn, hf]
  rw [e, this]; simp

theorem left_step {l : List UInt8} {bs : List Bt} {at_ : Nat} {b : Bt} {e : Nat} (h : LeftR l bs at_) (hs : specTake l at_ = some (b, e)) (hf : followB bs.getLast? b = true) : LeftR l (bs ++ [b]) e := by
  obtain ⟨ha, k, hk, eq⟩ := h
  obtain ⟨h1, h2⟩ := specTake_end2 hs
  refine ⟨h2, ?_⟩
  cases k with
  | zero => omega
  | succ k =>
    refine ⟨k, by omega, ?_⟩
    rw [eq]
    simp [readR, hs, hf]

/-- A batch, where its records lie, and how much room they have. -/
structure Q where
  b : Bt
  a : Option Addr
  c : Nat

def qCells (q : Q) : List Value := [.int .i64 q.b.off, .int .i64 q.b.ep, .int .i64 q.b.pr, .int .i64 q.b.sq, .slice q.a q.b.recs.length q.c]
def qsCells : List Q → List Value
  | [] => []
  | q :: r => qCells q ++ qsCells r
def qsB (qs : List Q) : List Bt := qs.map Q.b

theorem qsCells_app : ∀ xs ys : List Q, qsCells (xs ++ ys) = qsCells xs ++ qsCells ys
  | [], ys => rfl
  | q :: r, ys => by simp [qsCells, qsCells_app r ys]

theorem qsCells_len : ∀ xs : List Q, (qsCells xs).length = xs.length * 5
  | [] => rfl
  | q :: r => by simp [qsCells, qCells, qsCells_len r]; omega

theorem qsCells_get : ∀ (qs : List Q) (i : Nat) (q : Q), qs[i]? = some q → ∀ j, j < 5 → (qsCells qs)[i * 5 + j]? = (qCells q)[j]?
  | [], i, q, h, _, _ => by simp at h
  | p :: r, 0, q, h, j, hj => by
    simp at h; subst h
    simp only [qsCells, Nat.zero_mul, Nat.zero_add]
    rw [List.getElem?_append_left (by simp [qCells]; omega)]
  | p :: r, i + 1, q, h, j, hj => by
    have := qsCells_get r i q (by simpa using h) j hj
    simp only [qsCells]
    rw [List.getElem?_append_right (by simp [qCells]; omega), ← this]
    congr 1
    simp [qCells]; omega

/-- The block of a batch's records. -/
def Q.blk (q : Q) : Option Nat := (Value.slice q.a q.b.recs.length q.c).ownBlock

/-- While batches are read: the list's row and each batch's records are the call's own, and lie apart. -/
structure RdSt (w : World) (wr : World) (v : Value) (qs : List Q) : Prop where
  own : wr.ownsRow w.heap.size 35 5 v qs.length (qsCells qs)
  recs : ∀ q, q ∈ qs → wr.ownsRow w.heap.size 9 1 (.slice q.a q.b.recs.length q.c) q.b.recs.length (strVals q.b.recs) ∧ (∀ s, s ∈ q.b.recs → s.size < 256) ∧ q.b.recs.length ≤ 8
  gne : ∀ q, q ∈ qs → ∀ k, q.blk = some k → v.ownBlock ≠ some k
  dis : qs.Pairwise (fun p q => ∀ k, p.blk = some k → q.blk ≠ some k)
  bel : Below w.heap.size w wr

theorem rd_start (w : World) : RdSt w w (.slice none 0 0) [] :=
  ⟨World.ownsRow_nil _ _ _ _, fun q h => by simp at h, fun q h => by simp at h, List.Pairwise.nil, Below.refl _ _⟩

theorem ownsR_of_block {w w' : World} {B : Nat} {e : TypeId} {size : Nat} {v : Value} {n : Nat} {xs : List Value} (h : w.ownsRow B e size v n xs) (hs : ∀ q, v.ownBlock = some q → w'.heap[q]? = w.heap[q]?) : w'.ownsRow B e size v n xs := by
  obtain ⟨h1, h2 | ⟨g, cap, cur, hv, hg, hh, r⟩⟩ := h
  · exact ⟨h1, .inl h2⟩
  · exact ⟨h1, .inr ⟨g, cap, cur, hv, hg, (hs g (by rw [hv]; rfl)).trans hh, r⟩⟩

theorem rd_below {w wr u : World} {v : Value} {qs : List Q} (h : RdSt w wr v qs) (hb : Below wr.heap.size wr u) : RdSt w u v qs :=
  ⟨owns_below h.own hb, fun q hq => ⟨owns_below (h.recs q hq).1 hb, (h.recs q hq).2⟩, h.gne, h.dis, h.bel.trans (hb.mono h.bel.size)⟩

/-- One batch more. -/
theorem rd_step {w wr u w6 : World} {v : Value} {qs : List Q} {q : Q} {g2 cap2 : Nat} (h : RdSt w wr v qs) (hu : Below wr.heap.size wr u)
    (hq : u.ownsRow wr.heap.size 9 1 (.slice q.a q.b.recs.length q.c) q.b.recs.length (strVals q.b.recs)) (hz : ∀ s, s ∈ q.b.recs → s.size < 256) (h8 : q.b.recs.length ≤ 8)
    (hgrow : u.grownBy w6 v.ownBlock) (hown : w6.ownsRow w.heap.size 35 5 (.slice (some ⟨g2, 0, none⟩) (qs.length + 1) cap2) (qs.length + 1) (qsCells qs ++ qCells q)) (hat : v.ownBlock = some g2 ∨ g2 = u.heap.size) :
    RdSt w w6 (.slice (some ⟨g2, 0, none⟩) (qs.length + 1) cap2) (qs ++ [q]) := by
  have hbs := h.bel.size
  have hus := hu.size
  have hold : ∀ p, p ∈ qs → ∀ k, p.blk = some k → k < wr.heap.size := fun p hp k hk => ((h.recs p hp).1.lt k hk).2
  have hnew : ∀ k, q.blk = some k → wr.heap.size ≤ k ∧ k < u.heap.size := fun k hk => hq.lt k hk
  have hvl : ∀ k, v.ownBlock = some k → k < wr.heap.size := fun k hk => (h.own.lt k hk).2
  refine ⟨?_, ?_, ?_, ?_, ?_⟩
  · rw [qsCells_app, List.length_append, List.length_singleton]
    simpa [qsCells] using hown
  · intro p hp
    rcases List.mem_append.1 hp with hp | hp
    · refine ⟨ownsR_of_block (h.recs p hp).1 (fun k hk => ?_), (h.recs p hp).2⟩
      have hk2 := hold p hp k hk
      rw [hgrow.block k (by omega) (fun e => h.gne p hp k hk e.symm), hu.block k hk2]
    · simp only [List.mem_singleton] at hp
      subst hp
      refine ⟨owns_mono (ownsR_of_block hq (fun k hk => ?_)) hbs, hz, h8⟩
      have hk2 := hnew k hk
      exact hgrow.block k hk2.2 (fun e => by have := hvl k e.symm; omega)
  · intro p hp k hk e
    simp only [Value.ownBlock, Option.some.injEq] at e
    subst e
    rcases List.mem_append.1 hp with hp | hp
    · rcases hat with ha | ha
      · exact h.gne p hp _ hk ha
      · have := hold p hp _ hk; omega
    · simp only [List.mem_singleton] at hp
      subst hp
      have hk2 := hnew _ hk
      rcases hat with ha | ha
      · have := hvl _ ha; omega
      · omega
  · refine List.pairwise_append.2 ⟨h.dis, List.pairwise_singleton _ _, fun p hp r hr k hk e => ?_⟩
    simp only [List.mem_singleton] at hr
    subst hr
    have := hold p hp k hk
    have := hnew k e
    omega
  · exact (h.bel.trans (hu.mono h.bel.size)).grown hgrow (by omega) (fun k hk => (h.own.lt k hk).1)

theorem qsB_len (qs : List Q) : (qsB qs).length = qs.length := by simp [qsB]

theorem qsB_app (qs : List Q) (q : Q) : qsB (qs ++ [q]) = qsB qs ++ [q.b] := by simp [qsB]

theorem row_of_ownsB {w : World} {B : Nat} {t : TypeId} {size : Nat} {v : Value} {n : Nat} {xs : List Value} (h : w.ownsRow B t size v n xs) (hn : 0 < n) :
    ∃ g cap f, v = .slice (some ⟨g, 0, none⟩) n cap ∧ B ≤ g ∧ n ≤ cap ∧ w.rowIs g t (cap * size) f ∧ ∀ i, i < n * size → xs[i]? = some (f i) := by
  obtain ⟨h1, ⟨hv, h0⟩ | ⟨g, cap, cur, hv, hg, hh, hnc, hcap, hcs, ht⟩⟩ := h
  · omega
  · have hle : n * size ≤ cap * size := Nat.mul_le_mul_right _ hnc
    refine ⟨g, cap, fun j => cur.getD j undef, hv, hg, hnc, ⟨cur, hh, hcs, fun i hi => by simp [hcs, hi]⟩, fun i hi => ?_⟩
    rw [← ht, List.getElem?_take_of_lt hi]
    have : i < cur.size := by omega
    simp [this]

/-- What was read reads as these batches. -/
theorem rd_bats {w wr : World} {a : Option Addr} {c : Nat} {qs : List Q} (h : RdSt w wr (.slice a qs.length c) qs) : Bats wr a (qsB qs) := fun i b hi => by
  have hlt := (List.getElem?_eq_some_iff.1 hi).1
  rw [qsB_len] at hlt
  obtain ⟨q, hq⟩ : ∃ q, qs[i]? = some q := ⟨_, List.getElem?_eq_getElem hlt⟩
  obtain rfl : q.b = b := by simpa [qsB, hq] using hi
  obtain ⟨g, cap, f, hv, hg, hn, hR, hx⟩ := row_of_ownsB h.own (by omega)
  simp only [Value.slice.injEq] at hv
  obtain ⟨rfl, -, rfl⟩ := hv
  have hm := List.mem_of_getElem? hq
  have cell : ∀ j v, j < 5 → (qCells q)[j]? = some v → wr.cell? ⟨g, 0 + i * 5 + j, none⟩ = some v := fun j v hj hv => by
    have e := hx (i * 5 + j) (by omega)
    rw [qsCells_get qs i q hq j hj, hv] at e
    rw [Nat.zero_add, hR.cell (by omega)]
    exact e.symm
  refine ⟨g, 0, rfl, q.a, q.c, cell 0 _ (by omega) rfl, cell 1 _ (by omega) rfl, cell 2 _ (by omega) rfl, cell 3 _ (by omega) rfl, cell 4 _ (by omega) rfl, strs_of_owns (h.recs q hm).1 (h.recs q hm).2.1, ?_⟩
  have := (h.recs q hm).2.2
  unfold maxLen; omega

end Go.Proofs.YtjfmmnnidlgenaaDoor
