/-
  Marks in lists of batches: the contracts of markBatchS and heldBatchS.
-/
import Derived.Test.YtopndglgbollfaaDoorRead
namespace Go.Proofs.YtopndglgbollfaaDoor
open Go.RowKit

/-- Where the marks of these batches end. -/
def kTo : List Q → Nat → Nat
  | [], k => k
  | q :: r, k => kTo r (k + 4 + q.b.recs.length)

def markQ (k : Nat) (q : Q) : Bt := ⟨((k : Nat) : Int), ((k + 1 : Nat) : Int), ((k + 2 : Nat) : Int), ((k + 3 : Nat) : Int), markL (k + 4) q.b.recs.length⟩
def markQs : List Q → Nat → List Bt
  | [], _ => []
  | q :: r, k => markQ k q :: markQs r (k + 4 + q.b.recs.length)

theorem kTo_app : ∀ (xs : List Q) (q : Q) (k : Nat), kTo (xs ++ [q]) k = kTo xs k + 4 + q.b.recs.length
  | [], q, k => rfl
  | p :: r, q, k => by simp only [List.cons_append, kTo]; exact kTo_app r q _

theorem kTo_ge : ∀ (xs : List Q) (k : Nat), k ≤ kTo xs k
  | [], k => Nat.le_refl _
  | p :: r, k => by have := kTo_ge r (k + 4 + p.b.recs.length); simp only [kTo]; omega

theorem takeQ_snoc {qs : List Q} {i : Nat} {q : Q} (h : qs[i]? = some q) : qs.take (i + 1) = qs.take i ++ [q] := by
  rw [List.take_add_one, h]; rfl

theorem kTo_split : ∀ (xs ys : List Q) (k : Nat), kTo (xs ++ ys) k = kTo ys (kTo xs k)
  | [], ys, k => rfl
  | p :: r, ys, k => by simp only [List.cons_append, kTo]; exact kTo_split r ys _

theorem kTo_take (qs : List Q) (i k : Nat) : kTo (qs.take i) k ≤ kTo qs k := by
  have := kTo_split (qs.take i) (qs.drop i) k
  rw [List.take_append_drop] at this
  rw [this]
  exact kTo_ge _ _

theorem markQs_len : ∀ (qs : List Q) (k : Nat), (markQs qs k).length = qs.length
  | [], _ => rfl
  | q :: r, k => by simp [markQs, markQs_len r]

theorem markQs_get : ∀ (qs : List Q) (k i : Nat) (q : Q), qs[i]? = some q → (markQs qs k)[i]? = some (markQ (kTo (qs.take i) k) q)
  | [], _, i, q, h => by simp at h
  | p :: r, k, 0, q, h => by simp at h; subst h; simp [markQs, kTo]
  | p :: r, k, i + 1, q, h => by
    have := markQs_get r (k + 4 + p.b.recs.length) i q (by simpa using h)
    simpa [markQs, kTo] using this

/-- The list's row at g, and the rows of its batches' records, all apart. -/
structure LgSt (w : World) (B g m : Nat) (qs : List Q) (f : Nat → Value) : Prop where
  row : w.rowIs g 60 m f
  rcs : ∀ (i : Nat) (q : Q), qs[i]? = some q → f (i * 5 + 4) = .slice q.a q.b.recs.length q.c ∧ RowAt w B q.a q.b.recs.length ∧ ¬ InBlock q.a q.b.recs.length g
  dis : ∀ (i j : Nat) (p q : Q) (k : Nat), qs[i]? = some p → qs[j]? = some q → i ≠ j → InBlock p.a p.b.recs.length k → ¬ InBlock q.a q.b.recs.length k

theorem Q.blk_of {q : Q} {k : Nat} (h : InBlock q.a q.b.recs.length k) : q.blk = some k := by
  obtain ⟨-, o, s, e⟩ := h
  unfold Q.blk
  rw [e]; rfl

theorem lg_of_rd {w0 w : World} {a : Option Addr} {c : Nat} {qs : List Q} (h : RdSt w0 w (.slice a qs.length c) qs) (hn : 0 < qs.length) :
    ∃ g m f, a = some ⟨g, 0, none⟩ ∧ w0.heap.size ≤ g ∧ qs.length * 5 ≤ m ∧ LgSt w w0.heap.size g m qs f := by
  obtain ⟨g, cap, f, hv, hg, hnc, hR, hx⟩ := row_of_ownsB h.own hn
  simp only [Value.slice.injEq] at hv
  obtain ⟨rfl, -, rfl⟩ := hv
  refine ⟨g, c * 5, f, rfl, hg, Nat.mul_le_mul_right _ hnc, hR, fun i q hq => ?_, fun i j p q k hp hq hij hk hk' => ?_⟩
  · have hlt := (List.getElem?_eq_some_iff.1 hq).1
    have e := hx (i * 5 + 4) (by omega)
    rw [qsCells_get qs i q hq 4 (by omega)] at e
    have hm := List.mem_of_getElem? hq
    exact ⟨(Option.some.inj e).symm, row_of_owns (h.recs q hm).1, fun hk => h.gne q hm g (Q.blk_of hk) rfl⟩
  · have pw := h.dis
    rw [List.pairwise_iff_getElem] at pw
    obtain ⟨h1, e1⟩ := List.getElem?_eq_some_iff.1 hp
    obtain ⟨h2, e2⟩ := List.getElem?_eq_some_iff.1 hq
    rcases Nat.lt_or_gt_of_ne hij with hlt | hgt
    · exact pw i j h1 h2 hlt k (by rw [e1]; exact Q.blk_of hk) (by rw [e2]; exact Q.blk_of hk')
    · exact pw j i h2 h1 hgt k (by rw [e2]; exact Q.blk_of hk') (by rw [e1]; exact Q.blk_of hk)

/-- The first i batches bear their marks. -/
def MkTo (w : World) (f : Nat → Value) (qs : List Q) (k i : Nat) : Prop :=
  ∀ (j : Nat) (q : Q), j < i → qs[j]? = some q → f (j * 5) = .int .i64 ((kTo (qs.take j) k : Nat) : Int) ∧ f (j * 5 + 1) = .int .i64 ((kTo (qs.take j) k + 1 : Nat) : Int) ∧ f (j * 5 + 2) = .int .i64 ((kTo (qs.take j) k + 2 : Nat) : Int) ∧ f (j * 5 + 3) = .int .i64 ((kTo (qs.take j) k + 3 : Nat) : Int) ∧ Strs w q.a (markL (kTo (qs.take j) k + 4) q.b.recs.length)

/-- The blocks of a list and of its batches' records. -/
def InLog (a : Option Addr) (qs : List Q) (b : Nat) : Prop := InBlock a qs.length b ∨ ∃ (i : Nat) (q : Q), qs[i]? = some q ∧ InBlock q.a q.b.recs.length b

/-- A row with four cells of one batch set. -/
def setF (f : Nat → Value) (i : Nat) (k : Nat) : Nat → Value := fun j => if j = i * 5 + 3 then .int .i64 ((k + 3 : Nat) : Int) else if j = i * 5 + 2 then .int .i64 ((k + 2 : Nat) : Int) else if j = i * 5 + 1 then .int .i64 ((k + 1 : Nat) : Int) else if j = i * 5 then .int .i64 ((k : Nat) : Int) else f j

/-- The world with these four cells set. -/
def setW (w : World) (g i k : Nat) : World := (((w.setCell ⟨g, i * 5, none⟩ (.int .i64 ((k : Nat) : Int))).setCell ⟨g, i * 5 + 1, none⟩ (.int .i64 ((k + 1 : Nat) : Int))).setCell ⟨g, i * 5 + 2, none⟩ (.int .i64 ((k + 2 : Nat) : Int))).setCell ⟨g, i * 5 + 3, none⟩ (.int .i64 ((k + 3 : Nat) : Int))

theorem setW_block (w : World) (g i k b : Nat) (h : b ≠ g) : (setW w g i k).heap[b]? = w.heap[b]? := by
  unfold setW
  rw [Below.heap_setCell _ ⟨g, i * 5 + 3, none⟩ _ b (by simpa using h), Below.heap_setCell _ ⟨g, i * 5 + 2, none⟩ _ b (by simpa using h), Below.heap_setCell _ ⟨g, i * 5 + 1, none⟩ _ b (by simpa using h), Below.heap_setCell w ⟨g, i * 5, none⟩ _ b (by simpa using h)]

theorem setW_size (w : World) (g i k : Nat) : (setW w g i k).heap.size = w.heap.size := by simp [setW]

theorem lg_set {w : World} {B g m : Nat} {qs : List Q} {f : Nat → Value} (h : LgSt w B g m qs f) (i k : Nat) : LgSt (setW w g i k) B g m qs (setF f i k) := by
  refine ⟨(((h.row.set _ _).set _ _).set _ _).set _ _, fun j q hq => ?_, h.dis⟩
  obtain ⟨h1, h2, h3⟩ := h.rcs j q hq
  refine ⟨?_, h2.of_block (fun b hb => setW_block w g i k b (fun e => h3 (e ▸ hb))), h3⟩
  unfold setF
  rw [if_neg (by omega), if_neg (by omega), if_neg (by omega), if_neg (by omega)]
  exact h1

theorem mk_step {w w2 : World} {B g m : Nat} {qs : List Q} {f : Nat → Value} {k i : Nat} {q : Q} (h : LgSt w B g m qs f) (hM : MkTo w f qs k i) (hq : qs[i]? = some q)
    (hS : Strs w2 q.a (markL (kTo (qs.take i) k + 4) q.b.recs.length)) (hRow : RowAt w2 B q.a q.b.recs.length)
    (hO : ∀ b, b < (setW w g i (kTo (qs.take i) k)).heap.size → ¬ InBlock q.a q.b.recs.length b → w2.heap[b]? = (setW w g i (kTo (qs.take i) k)).heap[b]?) :
    LgSt w2 B g m qs (setF f i (kTo (qs.take i) k)) ∧ MkTo w2 (setF f i (kTo (qs.take i) k)) qs k (i + 1) := by
  have hL := lg_set h i (kTo (qs.take i) k)
  rw [setW_size] at hO
  have hlt : ∀ (j : Nat) (p : Q), qs[j]? = some p → ∀ b, InBlock p.a p.b.recs.length b → b < w.heap.size := fun j p hp b hb => ((h.rcs j p hp).2.1.lt hb).2
  refine ⟨⟨hL.row.of_block (hO g (by have := hL.row.lt; rwa [setW_size] at this) (h.rcs i q hq).2.2), fun j p hp => ?_, h.dis⟩, fun j p hj hp => ?_⟩
  · obtain ⟨h1, h2, h3⟩ := hL.rcs j p hp
    refine ⟨h1, ?_, h3⟩
    by_cases e : j = i
    · subst e
      obtain rfl : p = q := by rw [hp] at hq; simpa using hq
      exact hRow
    · exact h2.of_block (fun b hb => hO b (hlt j p hp b hb) (fun hb' => h.dis i j q p b hq hp (fun e' => e e'.symm) hb' hb))
  · by_cases e : j = i
    · subst e
      obtain rfl : p = q := by rw [hp] at hq; simpa using hq
      refine ⟨?_, ?_, ?_, ?_, hS⟩ <;> simp [setF]
    · obtain ⟨m0, m1, m2, m3, m4⟩ := hM j p (by omega) hp
      refine ⟨?_, ?_, ?_, ?_, m4.of_block (fun b hb => ?_)⟩
      · unfold setF; rw [if_neg (by omega), if_neg (by omega), if_neg (by omega), if_neg (by omega)]; exact m0
      · unfold setF; rw [if_neg (by omega), if_neg (by omega), if_neg (by omega), if_neg (by omega)]; exact m1
      · unfold setF; rw [if_neg (by omega), if_neg (by omega), if_neg (by omega), if_neg (by omega)]; exact m2
      · unfold setF; rw [if_neg (by omega), if_neg (by omega), if_neg (by omega), if_neg (by omega)]; exact m3
      · rw [markL_length] at hb
        have hb2 := hlt j p hp b hb
        rw [hO b hb2 (fun hb' => h.dis i j q p b hq hp (fun e' => e e'.symm) hb' hb)]
        exact setW_block w g i _ b (fun e' => (h.rcs j p hp).2.2 (e' ▸ hb))

theorem mk_bats {w : World} {B g m : Nat} {qs : List Q} {f : Nat → Value} {k : Nat} (h : LgSt w B g m qs f) (hm : qs.length * 5 ≤ m) (hM : MkTo w f qs k qs.length) (h8 : ∀ q, q ∈ qs → q.b.recs.length ≤ 8) : Bats w (some ⟨g, 0, none⟩) (markQs qs k) := fun i b hi => by
  have hlt := (List.getElem?_eq_some_iff.1 hi).1
  rw [markQs_len] at hlt
  obtain ⟨q, hq⟩ : ∃ q, qs[i]? = some q := ⟨_, List.getElem?_eq_getElem hlt⟩
  rw [markQs_get qs k i q hq] at hi
  simp only [Option.some.injEq] at hi
  subst hi
  obtain ⟨m0, m1, m2, m3, m4⟩ := hM i q hlt hq
  have h8' := h8 q (List.mem_of_getElem? hq)
  refine ⟨g, 0, rfl, q.a, q.c, ?_, ?_, ?_, ?_, ?_, m4, by simp only [markQ, markL_length]; unfold maxLen; omega⟩
  · rw [Nat.zero_add, h.row.cell (by omega), m0]; rfl
  · rw [Nat.zero_add, h.row.cell (by omega), m1]; rfl
  · rw [Nat.zero_add, h.row.cell (by omega), m2]; rfl
  · rw [Nat.zero_add, h.row.cell (by omega), m3]; rfl
  · rw [Nat.zero_add, h.row.cell (by omega), (h.rcs i q hq).1]
    simp only [markQ, markL_length]

end Go.Proofs.YtopndglgbollfaaDoor
