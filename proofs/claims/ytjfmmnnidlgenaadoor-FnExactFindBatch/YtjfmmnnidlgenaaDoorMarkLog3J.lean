/-
  Marks in lists of batches: the contracts of markBatchS and heldBatchS.
  Marks in lists of batches, the walks: markBatchS and heldBatchS.
  The walk of the law FnExactReadLog: at every text it answers true and leaves what was there as it was, where the sum's table is laid.
  Marks in lists of batches once more: markBatchS over a list's rows alone.
-/
import Derived.Test.YtjfmmnnidlgenaaDoorRead
import Derived.Test.YtjfmmnnidlgenaaDoorReadSpec
namespace Go.Proofs.YtjfmmnnidlgenaaDoor
open Go.RowKit

/-- Where the marks of these batches end. -/
def kTo : List Q → Nat → Nat
  | [], k => k
  | q :: r, k => kTo r (k + 4 + q.b.recs.length)

def markQ (k : Nat) (q : Q) : Bt := ⟨((k : Nat) : Int), ((k + 1 : Nat) : Int), ((k + 2 : Nat) : Int), ((k + 3 : Nat) : Int), markL (k + 4) q.b.recs.length⟩
def markQs : List Q → Nat → List Bt
  | [], _ => []
  | q :: r, k => markQ k q :: markQs r (k + 4 + q.b.recs.length)

theorem kTo_app : ∀ (xs : List Q) (q : Q) (k : Nat), kTo (xs ++ [q]) k = kTo xs k + 4 + q.b.recs.length
  | [], q, k => rfl
  | p :: r, q, k => by simp only [List.cons_append, kTo]; exact kTo_app r q _

theorem kTo_ge : ∀ (xs : List Q) (k : Nat), k ≤ kTo xs k
  | [], k => Nat.le_refl _
  | p :: r, k => by have := kTo_ge r (k + 4 + p.b.recs.length); simp only [kTo]; omega

theorem takeQ_snoc {qs : List Q} {i : Nat} {q : Q} (h : qs[i]? = some q) : qs.take (i + 1) = qs.take i ++ [q] := by
  rw [List.take_add_one, h]; rfl

theorem kTo_split : ∀ (xs ys : List Q) (k : Nat), kTo (xs ++ ys) k = kTo ys (kTo xs k)
  | [], ys, k => rfl
  | p :: r, ys, k => by simp only [List.cons_append, kTo]; exact kTo_split r ys _

theorem kTo_take (qs : List Q) (i k : Nat) : kTo (qs.take i) k ≤ kTo qs k := by
  have := kTo_split (qs.take i) (qs.drop i) k
  rw [List.take_append_drop] at this
  rw [this]
  exact kTo_ge _ _

theorem markQs_len : ∀ (qs : List Q) (k : Nat), (markQs qs k).length = qs.length
  | [], _ => rfl
  | q :: r, k => by simp [markQs, markQs_len r]

theorem markQs_get : ∀ (qs : List Q) (k i : Nat) (q : Q), qs[i]? = some q → (markQs qs k)[i]? = some (markQ (kTo (qs.take i) k) q)
  | [], _, i, q, h => by simp at h
  | p :: r, k, 0, q, h => by simp at h; subst h; simp [markQs, kTo]
  | p :: r, k, i + 1, q, h => by
    have := markQs_get r (k + 4 + p.b.recs.length) i q (by simpa using h)
    simpa [markQs, kTo] using this

/-- The list's row at g, and the rows of its batches' records, all apart. -/
structure LgSt (w : World) (B g m : Nat) (qs : List Q) (f : Nat → Value) : Prop where
  row : w.rowIs g 35 m f
  rcs : ∀ (i : Nat) (q : Q), qs[i]? = some q → f (i * 5 + 4) = .slice q.a q.b.recs.length q.c ∧ RowAt w B q.a q.b.recs.length ∧ ¬ InBlock q.a q.b.recs.length g
  dis : ∀ (i j : Nat) (p q : Q) (k : Nat), qs[i]? = some p → qs[j]? = some q → i ≠ j → InBlock p.a p.b.recs.length k → ¬ InBlock q.a q.b.recs.length k

theorem Q.blk_of {q : Q} {k : Nat} (h : InBlock q.a q.b.recs.length k) : q.blk = some k := by
  obtain ⟨-, o, s, e⟩ := h
  unfold Q.blk
  rw [e]; rfl

theorem lg_of_rd {w0 w : World} {a : Option Addr} {c : Nat} {qs : List Q} (h : RdSt w0 w (.slice a qs.length c) qs) (hn : 0 < qs.length) :
    ∃ g m f, a = some ⟨g, 0, none⟩ ∧ w0.heap.size ≤ g ∧ qs.length * 5 ≤ m ∧ LgSt w w0.heap.size g m qs f := by
  obtain ⟨g, cap, f, hv, hg, hnc, hR, hx⟩ := row_of_ownsB h.own hn
  simp only [Value.slice.injEq] at hv
  obtain ⟨rfl, -, rfl⟩ := hv
  refine ⟨g, c * 5, f, rfl, hg, Nat.mul_le_mul_right _ hnc, hR, fun i q hq => ?_, fun i j p q k hp hq hij hk hk' => ?_⟩
  · have hlt := (List.getElem?_eq_some_iff.1 hq).1
    have e := hx (i * 5 + 4) (by omega)
    rw [qsCells_get qs i q hq 4 (by omega)] at e
    have hm := List.mem_of_getElem? hq
    exact ⟨(Option.some.inj e).symm, row_of_owns (h.recs q hm).1, fun hk => h.gne q hm g (Q.blk_of hk) rfl⟩
  · have pw := h.dis
    rw [List.pairwise_iff_getElem] at pw
    obtain ⟨h1, e1⟩ := List.getElem?_eq_some_iff.1 hp
    obtain ⟨h2, e2⟩ := List.getElem?_eq_some_iff.1 hq
    rcases Nat.lt_or_gt_of_ne hij with hlt | hgt
    · exact pw i j h1 h2 hlt k (by rw [e1]; exact Q.blk_of hk) (by rw [e2]; exact Q.blk_of hk')
    · exact pw j i h2 h1 hgt k (by rw [e2]; exact Q.blk_of hk') (by rw [e1]; exact Q.blk_of hk)

/-- The first i batches bear their marks. -/
def MkTo (w : World) (f : Nat → Value) (qs : List Q) (k i : Nat) : Prop :=
  ∀ (j : Nat) (q : Q), j < i → qs[j]? = some q → f (j * 5) = .int .i64 ((kTo (qs.take j) k : Nat) : Int) ∧ f (j * 5 + 1) = .int .i64 ((kTo (qs.take j) k + 1 : Nat) : Int) ∧ f (j * 5 + 2) = .int .i64 ((kTo (qs.take j) k + 2 : Nat) : Int) ∧ f (j * 5 + 3) = .int .i64 ((kTo (qs.take j) k + 3 : Nat) : Int) ∧ Strs w q.a (markL (kTo (qs.take j) k + 4) q.b.recs.length)

/-- The blocks of a list and of its batches' records. -/
def InLog (a : Option Addr) (qs : List Q) (b : Nat) : Prop := InBlock a qs.length b ∨ ∃ (i : Nat) (q : Q), qs[i]? = some q ∧ InBlock q.a q.b.recs.length b

/-- A row with four cells of one batch set. -/
def setF (f : Nat → Value) (i : Nat) (k : Nat) : Nat → Value := fun j => if j = i * 5 + 3 then .int .i64 ((k + 3 : Nat) : Int) else if j = i * 5 + 2 then .int .i64 ((k + 2 : Nat) : Int) else if j = i * 5 + 1 then .int .i64 ((k + 1 : Nat) : Int) else if j = i * 5 then .int .i64 ((k : Nat) : Int) else f j

/-- The world with these four cells set. -/
def setW (w : World) (g i k : Nat) : World := (((w.setCell ⟨g, i * 5, none⟩ (.int .i64 ((k : Nat) : Int))).setCell ⟨g, i * 5 + 1, none⟩ (.int .i64 ((k + 1 : Nat) : Int))).setCell ⟨g, i * 5 + 2, none⟩ (.int .i64 ((k + 2 : Nat) : Int))).setCell ⟨g, i * 5 + 3, none⟩ (.int .i64 ((k + 3 : Nat) : Int))

theorem setW_block (w : World) (g i k b : Nat) (h : b ≠ g) : (setW w g i k).heap[b]? = w.heap[b]? := by
  unfold setW
  rw [Below.heap_setCell _ ⟨g, i * 5 + 3, none⟩ _ b (by simpa using h), Below.heap_setCell _ ⟨g, i * 5 + 2, none⟩ _ b (by simpa using h), Below.heap_setCell _ ⟨g, i * 5 + 1, none⟩ _ b (by simpa using h), Below.heap_setCell w ⟨g, i * 5, none⟩ _ b (by simpa using h)]

theorem setW_size (w : World) (g i k : Nat) : (setW w g i k).heap.size = w.heap.size := by simp [setW]

theorem lg_set {w : World} {B g m : Nat} {qs : List Q} {f : Nat → Value} (h : LgSt w B g m qs f) (i k : Nat) : LgSt (setW w g i k) B g m qs (setF f i k) := by
  refine ⟨(((h.row.set _ _).set _ _).set _ _).set _ _, fun j q hq => ?_, h.dis⟩
  obtain ⟨h1, h2, h3⟩ := h.rcs j q hq
  refine ⟨?_, h2.of_block (fun b hb => setW_block w g i k b (fun e => h3 (e ▸ hb))), h3⟩
  unfold setF
  rw [if_neg (by omega), if_neg (by omega), if_neg (by omega), if_neg (by omega)]
  exact h1

theorem mk_step {w w2 : World} {B g m : Nat} {qs : List Q} {f : Nat → Value} {k i : Nat} {q : Q} (h : LgSt w B g m qs f) (hM : MkTo w f qs k i) (hq : qs[i]? = some q)
    (hS : Strs w2 q.a (markL (kTo (qs.take i) k + 4) q.b.recs.length)) (hRow : RowAt w2 B q.a q.b.recs.length)
    (hO : ∀ b, b < (setW w g i (kTo (qs.take i) k)).heap.size → ¬ InBlock q.a q.b.recs.length b → w2.heap[b]? = (setW w g i (kTo (qs.take i) k)).heap[b]?) :
    LgSt w2 B g m qs (setF f i (kTo (qs.take i) k)) ∧ MkTo w2 (setF f i (kTo (qs.take i) k)) qs k (i + 1) := by
  have hL := lg_set h i (kTo (qs.take i) k)
  rw [setW_size] at hO
  have hlt : ∀ (j : Nat) (p : Q), qs[j]? = some p → ∀ b, InBlock p.a p.b.recs.length b → b < w.heap.size := fun j p hp b hb => ((h.rcs j p hp).2.1.lt hb).2
  refine ⟨⟨hL.row.of_block (hO g (by have := hL.row.lt; rwa [setW_size] at this) (h.rcs i q hq).2.2), fun j p hp => ?_, h.dis⟩, fun j p hj hp => ?_⟩
  · obtain ⟨h1, h2, h3⟩ := hL.rcs j p hp
    refine ⟨h1, ?_, h3⟩
    by_cases e : j = i
    · subst e
      obtain rfl : p = q := by rw [hp] at hq; simpa using hq
      exact hRow
    · exact h2.of_block (fun b hb => hO b (hlt j p hp b hb) (fun hb' => h.dis i j q p b hq hp (fun e' => e e'.symm) hb' hb))
  · by_cases e : j = i
    · subst e
      obtain rfl : p = q := by rw [hp] at hq; simpa using hq
      refine ⟨?_, ?_, ?_, ?_, hS⟩ <;> simp [setF]
    · obtain ⟨m0, m1, m2, m3, m4⟩ := hM j p (by omega) hp
      refine ⟨?_, ?_, ?_, ?_, m4.of_block (fun b hb => ?_)⟩
      · unfold setF; rw [if_neg (by omega), if_neg (by omega), if_neg (by omega), if_neg (by omega)]; exact m0
      · unfold setF; rw [if_neg (by omega), if_neg (by omega), if_neg (by omega), if_neg (by omega)]; exact m1
      · unfold setF; rw [if_neg (by omega), if_neg (by omega), if_neg (by omega), if_neg (by omega)]; exact m2
      · unfold setF; rw [if_neg (by omega), if_neg (by omega), if_neg (by omega), if_neg (by omega)]; exact m3
      · rw [markL_length] at hb
        have hb2 := hlt j p hp b hb
        rw [hO b hb2 (fun hb' => h.dis i j q p b hq hp (fun e' => e e'.symm) hb' hb)]
        exact setW_block w g i _ b (fun e' => (h.rcs j p hp).2.2 (e' ▸ hb))

theorem mk_bats {w : World} {B g m : Nat} {qs : List Q} {f : Nat → Value} {k : Nat} (h : LgSt w B g m qs f) (hm : qs.length * 5 ≤ m) (hM : MkTo w f qs k qs.length) (h8 : ∀ q, q ∈ qs → q.b.recs.length ≤ 8) : Bats w (some ⟨g, 0, none⟩) (markQs qs k) := fun i b hi => by
  have hlt := (List.getElem?_eq_some_iff.1 hi).1
  rw [markQs_len] at hlt
  obtain ⟨q, hq⟩ : ∃ q, qs[i]? = some q := ⟨_, List.getElem?_eq_getElem hlt⟩
  rw [markQs_get qs k i q hq] at hi
  simp only [Option.some.injEq] at hi
  subst hi
  obtain ⟨m0, m1, m2, m3, m4⟩ := hM i q hlt hq
  have h8' := h8 q (List.mem_of_getElem? hq)
  refine ⟨g, 0, rfl, q.a, q.c, ?_, ?_, ?_, ?_, ?_, m4, by simp only [markQ, markL_length]; unfold maxLen; omega⟩
  · rw [Nat.zero_add, h.row.cell (by omega), m0]; rfl
  · rw [Nat.zero_add, h.row.cell (by omega), m1]; rfl
  · rw [Nat.zero_add, h.row.cell (by omega), m2]; rfl
  · rw [Nat.zero_add, h.row.cell (by omega), m3]; rfl
  · rw [Nat.zero_add, h.row.cell (by omega), (h.rcs i q hq).1]
    simp only [markQ, markL_length]

end Go.Proofs.YtjfmmnnidlgenaaDoor

namespace Go.Proofs.YtjfmmnnidlgenaaDoor
open Go.RowKit

theorem getQ {qs : List Q} {k : Nat} (h : k < qs.length) : ∃ q, qs[k]? = some q := ⟨_, List.getElem?_eq_getElem h⟩

set_option maxRecDepth 100000 in
set_option maxHeartbeats 4000000 in
theorem markBatchS_any (a : Option Addr) (c B k : Nat) (qs : List Q) (w w0 : World) (h : RdSt w0 w (.slice a qs.length c) qs) (hB0 : w0.heap.size = B) (_h1 : 1 ≤ k) (h2 : kTo qs k ≤ 1000000000) (hBw : B ≤ w.heap.size) (hq4 : qs.length ≤ 1000000) :
    Calls Tryd.prog 20 #[.slice a qs.length c, .int .i64 k] w fun r w' => r = .returned (.int .i64 ((kTo qs k : Nat) : Int)) ∧ Bats w' a (markQs qs k) ∧ Below B w w' ∧ ∀ b, b < w.heap.size → ¬ InLog a qs b → w'.heap[b]? = w.heap[b]? := by
  by_cases h0 : qs.length = 0
  · obtain rfl : qs = [] := List.eq_nil_of_length_eq_zero h0
    clear h h0 hB0
    go_enter Tryd.func20, Tryd.ntmps20
    go_wp2
    go_loopw [1, 5] (fun c i wr => c = .int .i64 (k : Int) ∧ i = .int .i64 0 ∧ w = wr) (fun _ _ _ => 0)
    case atStart => exact ⟨rfl, rfl, rfl⟩
    case round =>
      obtain ⟨rfl, rfl, rfl⟩ := hrel
      go_wp2
      go_ret
      exact ⟨rfl, (fun i s hi => by simp [markQs] at hi), Below.refl _ _, fun _ _ _ => rfl⟩
  · have h8 : ∀ q, q ∈ qs → q.b.recs.length ≤ 8 := fun q hq => (h.recs q hq).2.2
    obtain ⟨g, m, f, rfl, hg, hm, hL⟩ := lg_of_rd h (by omega)
    rw [hB0] at hg hL
    have H8 : Hid (∀ q, q ∈ qs → q.b.recs.length ≤ 8) := h8
    clear h hB0 h8
    go_enter Tryd.func20, Tryd.ntmps20
    go_wp2
    go_loopw [1, 5] (fun cv iv wr => ∃ (i : Nat) (f' : Nat → Value), i ≤ qs.length ∧ cv = .int .i64 ((kTo (qs.take i) k : Nat) : Int) ∧ iv = .int .i64 (i : Int) ∧ LgSt wr B g m qs f' ∧ MkTo wr f' qs k i ∧ Below B w wr ∧ ∀ b, b < w.heap.size → ¬ InLog (some ⟨g, 0, none⟩) qs b → wr.heap[b]? = w.heap[b]?) (fun _ iv _ => qs.length - (intOf iv).toNat)
    case atStart => exact ⟨0, f, Nat.zero_le _, rfl, rfl, hL, (fun j q hj => absurd hj (Nat.not_lt_zero _)), Below.refl _ _, fun _ _ _ => rfl⟩
    case round =>
      clear hL
      obtain ⟨i, f', hi, rfl, rfl, hL, hM, hB, hO⟩ := hrel
      have HM : Hid (MkTo wr f' qs k i) := hM
      have HO : Hid (∀ b, b < w.heap.size → ¬ InLog (some ⟨g, 0, none⟩) qs b → wr.heap[b]? = w.heap[b]?) := hO
      have HL : Hid (LgSt wr B g m qs f') := hL
      have hk1 := kTo_ge (qs.take i) k
      have hk2 := kTo_take qs i k
      clear hM hO
      by_cases hlt : i < qs.length
      · obtain ⟨q, hq⟩ := getQ hlt
        have HQ : Hid (qs[i]? = some q) := hq
        have hk3 := kTo_take qs (i + 1) k
        rw [takeQ_snoc hq, kTo_app] at hk3
        have HK : Hid (kTo (qs.take (i + 1)) k = kTo (qs.take i) k + 4 + q.b.recs.length) := by show _ = _; rw [takeQ_snoc hq, kTo_app]
        have hR := hL.row
        have c0 := hR.cell (i := i * 5) (by omega)
        have c1 := hR.cell (i := i * 5 + 1) (by omega)
        have c2 := hR.cell (i := i * 5 + 2) (by omega)
        have c3 := hR.cell (i := i * 5 + 3) (by omega)
        have c4 := hR.cell (i := i * 5 + 4) (by omega)
        rw [(hL.rcs i q hq).1] at c4
        have fz := hR.frozen
        have hBz := hB.size
        obtain ⟨K, hK⟩ : ∃ K, kTo (qs.take i) k = K := ⟨_, rfl⟩
        have HKK : Hid (kTo (qs.take i) k = K) := hK
        rw [hK] at hk1 hk2 hk3
        rw [hK]
        have hS := lg_set hL i K
        have hrow := (hS.rcs i q hq).2.1
        have HSW : Hid ((((wr.setCell ⟨g, i * 5, none⟩ (.int .i64 ((K : Nat) : Int))).setCell ⟨g, i * 5 + 1, none⟩ (.int .i64 ((K + 1 : Nat) : Int))).setCell ⟨g, i * 5 + 2, none⟩ (.int .i64 ((K + 2 : Nat) : Int))).setCell ⟨g, i * 5 + 3, none⟩ (.int .i64 ((K + 3 : Nat) : Int)) = setW wr g i K) := rfl
        have E1 : Hid ((K : Int) + 1 = ((K + 1 : Nat) : Int)) := by show _ = _; omega
        have E2 : Hid ((K : Int) + 1 + 1 = ((K + 2 : Nat) : Int)) := by show _ = _; omega
        have E3 : Hid ((K : Int) + 1 + 1 + 1 = ((K + 3 : Nat) : Int)) := by show _ = _; omega
        have E4 : Hid ((K : Int) + 1 + 1 + 1 + 1 = ((K + 4 : Nat) : Int)) := by show _ = _; omega
        have hx1 : 1 ≤ K + 4 := by omega
        have hx2 : K + 4 + q.b.recs.length ≤ 1000000000 := by omega
        have hx3 : B ≤ (setW wr g i K).heap.size := by rw [setW_size]; omega
        have hx6 : i + 1 ≤ qs.length := hlt
        have hBs : Below B w (setW wr g i K) := (((hB.setCell hg _).setCell hg _).setCell hg _).setCell hg _
        have HX : Hid (∀ b, b < w.heap.size → ¬ InLog (some ⟨g, 0, none⟩) qs b → (setW wr g i K).heap[b]? = w.heap[b]? ∧ b < (setW wr g i K).heap.size ∧ ¬ InBlock q.a q.b.recs.length b) := fun b hb hn => by
          have hbg : b ≠ g := fun e => hn (.inl (e ▸ ⟨by omega, 0, none, rfl⟩))
          refine ⟨(setW_block wr g i K b hbg).trans (HO.out b hb hn), by rw [setW_size]; omega, fun hb' => hn (.inr ⟨i, q, hq, hb'⟩)⟩
        clear hL hR hK hS hB hq
        go_wp2_with fail
        rw [E4.out, E3.out, E2.out, E1.out, HSW.out]
        refine (markStringS_any _ _ q.b.recs.length B (K + 4) _ hrow hx1 hx2 hx3).mono ?_
        rintro r w2 ⟨rfl, hS2, hR2, hB2, hO2⟩
        have hst := mk_step (k := k) HL.out HM.out HQ.out (by rw [HKK.out]; exact hS2) hR2 (by rw [HKK.out]; exact hO2)
        rw [HKK.out] at hst
        have HST : Hid (LgSt w2 B g m qs (setF f' i K) ∧ MkTo w2 (setF f' i K) qs k (i + 1)) := hst
        have HBn : Hid (Below B w w2) := hBs.trans hB2
        have HOn : Hid (∀ b, b < w.heap.size → ¬ InLog (some ⟨g, 0, none⟩) qs b → w2.heap[b]? = w.heap[b]?) := fun b hb hn => by
          obtain ⟨e1, e2, e3⟩ := HX.out b hb hn
          rw [hO2 b e2 e3, e1]
        have HR0 : Hid (((K + 4 + q.b.recs.length : Nat) : Int) = ((kTo (qs.take (i + 1)) k : Nat) : Int)) := by show _ = _; rw [HK.out, HKK.out]
        have HR : Hid ((K : Int) + 4 + (q.b.recs.length : Int) = ((kTo (qs.take (i + 1)) k : Nat) : Int)) := by show _ = _; rw [← HR0.out]; omega
        clear hst hS2 hR2 hB2 hO2 hBs hrow HX c0 c1 c2 c3 c4 fz
        go_wp2_with fail
        go_roundw
        case rel => exact ⟨i + 1, setF f' i K, hx6, by first | rw [HR.out] | rw [HR0.out], by go_num, HST.out.1, HST.out.2, HBn.out, HOn.out⟩
        case measure => simp [intOf]; omega
      · have hlt : i = qs.length := by omega
        have e : qs.take i = qs := List.take_of_length_le (by omega)
        have HBt : Hid (Bats wr (some ⟨g, 0, none⟩) (markQs qs k)) := mk_bats HL.out hm (hlt ▸ HM.out) H8.out
        rw [e]
        clear HM
        go_wp2
        go_ret
        exact ⟨rfl, HBt.out, hB, HO.out⟩

set_option maxRecDepth 100000 in
set_option maxHeartbeats 4000000 in
theorem heldBatchS_any (a : Option Addr) (c k : Nat) (qs : List Q) (w : World) (h : Bats w a (markQs qs k)) (h1 : 1 ≤ k) (h2 : kTo qs k ≤ 1000000000) (hq4 : qs.length ≤ 1000000) :
    Calls Tryd.prog 21 #[.slice a qs.length c, .int .i64 k] w fun r w' => r = .returned (.int .i64 ((kTo qs k : Nat) : Int)) ∧ Below w.heap.size w w' := by
  go_enter Tryd.func21, Tryd.ntmps21
  go_wp2
  go_loopw [1, 5] (fun cv iv wr => ∃ i : Nat, i ≤ qs.length ∧ cv = .int .i64 ((kTo (qs.take i) k : Nat) : Int) ∧ iv = .int .i64 (i : Int) ∧ Below w.heap.size w wr) (fun _ iv _ => qs.length - (intOf iv).toNat)
  case atStart => exact ⟨0, Nat.zero_le _, rfl, rfl, Below.refl _ _⟩
  case round =>
    obtain ⟨i, hi, rfl, rfl, hB⟩ := hrel
    have hk1 := kTo_ge (qs.take i) k
    have hk2 := kTo_take qs i k
    by_cases hlt : i < qs.length
    · obtain ⟨q, hq⟩ := getQ hlt
      have hk3 := kTo_take qs (i + 1) k
      rw [takeQ_snoc hq, kTo_app] at hk3
      have HK : Hid (kTo (qs.take (i + 1)) k = kTo (qs.take i) k + 4 + q.b.recs.length) := by show _ = _; rw [takeQ_snoc hq, kTo_app]
      obtain ⟨kb, ob, rfl, ra, rc, c0, c1, c2, c3, c4, hst, -⟩ := (h.below hB) i _ (markQs_get qs k i q hq)
      simp only [markQ, markL_length] at c0 c1 c2 c3 c4 hst
      obtain ⟨K, hK⟩ : ∃ K, kTo (qs.take i) k = K := ⟨_, rfl⟩
      rw [hK] at c0 c1 c2 c3 hst hk1 hk2 hk3
      have HKK : Hid (kTo (qs.take i) k = K) := hK
      rw [hK]
      have HS : Hid (Strs wr ra (markL (K + 4) q.b.recs.length)) := hst
      have E1 : Hid ((K : Int) + 1 = ((K + 1 : Nat) : Int)) := by show _ = _; omega
      have E4 : Hid ((K : Int) + 1 + 1 + 1 + 1 = ((K + 4 : Nat) : Int)) := by show _ = _; omega
      have e1 : ((K + 1 : Nat) : Int) = (K : Int) + 1 := by omega
      have e2 : ((K + 2 : Nat) : Int) = (K : Int) + 1 + 1 := by omega
      have e3 : ((K + 3 : Nat) : Int) = (K : Int) + 1 + 1 + 1 := by omega
      rw [e1] at c1
      rw [e2] at c2
      rw [e3] at c3
      have n0 : ((K : Int) != (K : Int)) = false := by simp
      have n1 : ((K : Int) + 1 != (K : Int) + 1) = false := by simp
      have n2 : ((K : Int) + 1 + 1 != (K : Int) + 1 + 1) = false := by simp
      have n3 : ((K : Int) + 1 + 1 + 1 != (K : Int) + 1 + 1 + 1) = false := by simp
      have hx1 : 1 ≤ K + 4 := by omega
      have hx2 : K + 4 + q.b.recs.length ≤ 1000000000 := by omega
      have hx6 : i + 1 ≤ qs.length := hlt
      have hx7 : ¬ (((K + 4 + q.b.recs.length : Nat) : Int) < 0) := by omega
      have HR0 : Hid (((K + 4 + q.b.recs.length : Nat) : Int) = ((kTo (qs.take (i + 1)) k : Nat) : Int)) := by show _ = _; rw [HK.out, HKK.out]
      have HR : Hid ((K : Int) + 4 + (q.b.recs.length : Int) = ((kTo (qs.take (i + 1)) k : Nat) : Int)) := by show _ = _; rw [← HR0.out]; omega
      clear h hq hst hK e1 e2 e3
      go_wp2_with fail
      rw [E4.out]
      refine (heldStringS_any _ _ q.b.recs.length (K + 4) _ HS.out hx1 hx2).mono ?_
      rintro r w2 ⟨rfl, hB2⟩
      have HBn : Hid (Below w.heap.size w w2) := hB.trans (hB2.mono hB.size)
      clear hB2 hB c0 c1 c2 c3 c4
      go_wp2_with fail
      go_roundw
      case rel => exact ⟨i + 1, hx6, by first | rw [HR.out] | rw [HR0.out], by go_num, HBn.out⟩
      case measure => simp [intOf]; omega
    · have e : qs.take i = qs := List.take_of_length_le (by omega)
      rw [e]
      go_wp2
      go_ret
      exact ⟨rfl, hB⟩

end Go.Proofs.YtjfmmnnidlgenaaDoor

namespace Go.Proofs.YtjfmmnnidlgenaaDoor
open Go.RowKit

theorem readR_len (l : List UInt8) : ∀ (k : Nat) (p : Option Bt) (n : Nat), n ≤ l.length → 2 * (readR l k p n).1.length + n ≤ l.length
  | 0, p, n, h => by simpa [readR] using h
  | k + 1, p, n, h => by
    unfold readR
    cases hs : specTake l n with
    | none => simpa using h
    | some x =>
      obtain ⟨b, e⟩ := x
      have he := specTake_end2 hs
      by_cases hf : followB p b = true
      · have := readR_len l k (some b) e he.2
        simp only [hf, if_true, List.length_cons]
        omega
      · simp only [hf]
        simpa using h

theorem kTo_le : ∀ (qs : List Q) (k : Nat), (∀ q, q ∈ qs → q.b.recs.length ≤ 8) → kTo qs k ≤ k + 12 * qs.length
  | [], k, _ => by simp [kTo]
  | q :: r, k, h => by
    have h1 := kTo_le r (k + 4 + q.b.recs.length) (fun p hp => h p (List.mem_cons_of_mem _ hp))
    have h2 := h q List.mem_cons_self
    simp only [kTo, List.length_cons]
    omega

theorem RdAns.form {w w' : World} {bs : List Bt} {z : Int} {ok : Bool} {r : Ending} (h : RdAns w bs z ok r w') :
    ∃ qs a c, r = .returned (.tuple #[.slice a bs.length c, .int .i64 z, .bool ok]) ∧ qs.length = bs.length ∧ Bats w' a bs ∧ RdSt w w' (.slice a qs.length c) qs := by
  obtain ⟨qs, a, c, rfl, rfl, hst⟩ := h
  exact ⟨qs, a, c, by rw [qsB_len], (qsB_len qs).symm, rd_bats hst, hst⟩

theorem Below.stepR {W a b : World} (h : Below W.heap.size W a) (k : Below a.heap.size a b) : Below W.heap.size W b := h.trans (k.mono h.size)

end Go.Proofs.YtjfmmnnidlgenaaDoor

namespace Go.Proofs.YtjfmmnnidlgenaaDoor
open Go.RowKit

/-- The list's row and its batches' records' rows, from B on. -/
def LogRow (w : World) (B : Nat) (a : Option Addr) (qs : List Q) : Prop :=
  qs.length = 0 ∨ ∃ g m f, a = some ⟨g, 0, none⟩ ∧ B ≤ g ∧ qs.length * 5 ≤ m ∧ LgSt w B g m qs f

theorem LogRow.of_rd {w0 w : World} {a : Option Addr} {c : Nat} {qs : List Q} (h : RdSt w0 w (.slice a qs.length c) qs) : LogRow w w0.heap.size a qs := by
  by_cases h0 : qs.length = 0
  · exact .inl h0
  · exact .inr (lg_of_rd h (by omega))

theorem LogRow.lt {w : World} {B : Nat} {a : Option Addr} {qs : List Q} (h : LogRow w B a qs) {b : Nat} (hb : InLog a qs b) : B ≤ b ∧ b < w.heap.size := by
  rcases h with h | ⟨g, m, f, rfl, hg, hm, hL⟩
  · have e : qs = [] := List.eq_nil_of_length_eq_zero h
    subst e
    rcases hb with ⟨h0, -⟩ | ⟨i, q, hq, -⟩
    · simp at h0
    · simp at hq
  · rcases hb with ⟨-, o, s, e⟩ | ⟨i, q, hq, hk⟩
    · simp only [Option.some.injEq, Addr.mk.injEq] at e
      have := hL.row.lt
      omega
    · exact (hL.rcs i q hq).2.1.lt hk

theorem LogRow.of_block {w w' : World} {B : Nat} {a : Option Addr} {qs : List Q} (h : LogRow w B a qs) (hs : ∀ b, InLog a qs b → w'.heap[b]? = w.heap[b]?) : LogRow w' B a qs := by
  by_cases h0 : qs.length = 0
  · exact .inl h0
  obtain ⟨g, m, f, rfl, hg, hm, hL⟩ := h.resolve_left h0
  refine .inr ⟨g, m, f, rfl, hg, hm, hL.row.of_block (hs g (.inl ⟨by omega, 0, none, rfl⟩)), fun i q hq => ?_, hL.dis⟩
  obtain ⟨h1, h2, h3⟩ := hL.rcs i q hq
  exact ⟨h1, h2.of_block (fun b hb => hs b (.inr ⟨i, q, hq, hb⟩)), h3⟩

theorem LogRow.below {w w' : World} {B : Nat} {a : Option Addr} {qs : List Q} (h : LogRow w B a qs) (hb : Below w.heap.size w w') : LogRow w' B a qs :=
  h.of_block fun b hi => hb.block b (h.lt hi).2

/-- Batches that lie in a list's blocks stay where these stay. -/
theorem Bats.of_log {w w' : World} {a : Option Addr} {bs : List Bt} (h : Bats w a bs) (hs : ∀ b, b < w.heap.size → w'.heap[b]? = w.heap[b]?) : Bats w' a bs := fun i b hi => by
  obtain ⟨k, o, e, ra, rc, h0, h1, h2, h3, h4, hst, hl⟩ := h i b hi
  have lt := lt_of_cell h0
  have c : ∀ j, w'.cell? ⟨k, j, none⟩ = w.cell? ⟨k, j, none⟩ := fun j => World.cell?_of_block (a := ⟨k, j, none⟩) (hs k lt)
  refine ⟨k, o, e, ra, rc, (c _).trans h0, (c _).trans h1, (c _).trans h2, (c _).trans h3, (c _).trans h4, fun i s hi => ?_, hl⟩
  obtain ⟨b', off, e', hc, hz⟩ := hst i s hi
  exact ⟨b', off, e', (World.cell?_of_block (a := ⟨b', off + i, none⟩) (hs b' (lt_of_cell hc))).trans hc, hz⟩

set_option maxRecDepth 100000 in
set_option maxHeartbeats 4000000 in
theorem markBatchS_row (a : Option Addr) (c B k : Nat) (qs : List Q) (w : World) (h : LogRow w B a qs) (h8 : ∀ q, q ∈ qs → q.b.recs.length ≤ 8) (h2 : kTo qs k ≤ 1000000000) (hBw : B ≤ w.heap.size) (hq4 : qs.length ≤ 1000000) :
    Calls Tryd.prog 20 #[.slice a qs.length c, .int .i64 k] w fun r w' => r = .returned (.int .i64 ((kTo qs k : Nat) : Int)) ∧ Bats w' a (markQs qs k) ∧ Below B w w' ∧ ∀ b, b < w.heap.size → ¬ InLog a qs b → w'.heap[b]? = w.heap[b]? := by
  by_cases h0 : qs.length = 0
  · obtain rfl : qs = [] := List.eq_nil_of_length_eq_zero h0
    clear h h0
    go_enter Tryd.func20, Tryd.ntmps20
    go_wp2
    go_loopw [1, 5] (fun c i wr => c = .int .i64 (k : Int) ∧ i = .int .i64 0 ∧ w = wr) (fun _ _ _ => 0)
    case atStart => exact ⟨rfl, rfl, rfl⟩
    case round =>
      obtain ⟨rfl, rfl, rfl⟩ := hrel
      go_wp2
      go_ret
      exact ⟨rfl, (fun i s hi => by simp [markQs] at hi), Below.refl _ _, fun _ _ _ => rfl⟩
  · obtain ⟨g, m, f, rfl, hg, hm, hL⟩ := h.resolve_left h0
    have H8 : Hid (∀ q, q ∈ qs → q.b.recs.length ≤ 8) := h8
    clear h h8
    go_enter Tryd.func20, Tryd.ntmps20
    go_wp2
    go_loopw [1, 5] (fun cv iv wr => ∃ (i : Nat) (f' : Nat → Value), i ≤ qs.length ∧ cv = .int .i64 ((kTo (qs.take i) k : Nat) : Int) ∧ iv = .int .i64 (i : Int) ∧ LgSt wr B g m qs f' ∧ MkTo wr f' qs k i ∧ Below B w wr ∧ ∀ b, b < w.heap.size → ¬ InLog (some ⟨g, 0, none⟩) qs b → wr.heap[b]? = w.heap[b]?) (fun _ iv _ => qs.length - (intOf iv).toNat)
    case atStart => exact ⟨0, f, Nat.zero_le _, rfl, rfl, hL, (fun j q hj => absurd hj (Nat.not_lt_zero _)), Below.refl _ _, fun _ _ _ => rfl⟩
    case round =>
      clear hL
      obtain ⟨i, f', hi, rfl, rfl, hL, hM, hB, hO⟩ := hrel
      have HM : Hid (MkTo wr f' qs k i) := hM
      have HO : Hid (∀ b, b < w.heap.size → ¬ InLog (some ⟨g, 0, none⟩) qs b → wr.heap[b]? = w.heap[b]?) := hO
      have HL : Hid (LgSt wr B g m qs f') := hL
      have hk1 := kTo_ge (qs.take i) k
      have hk2 := kTo_take qs i k
      clear hM hO
      by_cases hlt : i < qs.length
      · obtain ⟨q, hq⟩ := getQ hlt
        have HQ : Hid (qs[i]? = some q) := hq
        have hk3 := kTo_take qs (i + 1) k
        rw [takeQ_snoc hq, kTo_app] at hk3
        have HK : Hid (kTo (qs.take (i + 1)) k = kTo (qs.take i) k + 4 + q.b.recs.length) := by show _ = _; rw [takeQ_snoc hq, kTo_app]
        have hR := hL.row
        have c0 := hR.cell (i := i * 5) (by omega)
        have c1 := hR.cell (i := i * 5 + 1) (by omega)
        have c2 := hR.cell (i := i * 5 + 2) (by omega)
        have c3 := hR.cell (i := i * 5 + 3) (by omega)
        have c4 := hR.cell (i := i * 5 + 4) (by omega)
        rw [(hL.rcs i q hq).1] at c4
        have fz := hR.frozen
        have hBz := hB.size
        obtain ⟨K, hK⟩ : ∃ K, kTo (qs.take i) k = K := ⟨_, rfl⟩
        have HKK : Hid (kTo (qs.take i) k = K) := hK
        rw [hK] at hk1 hk2 hk3
        rw [hK]
        have hS := lg_set hL i K
        have hrow := (hS.rcs i q hq).2.1
        have HSW : Hid ((((wr.setCell ⟨g, i * 5, none⟩ (.int .i64 ((K : Nat) : Int))).setCell ⟨g, i * 5 + 1, none⟩ (.int .i64 ((K + 1 : Nat) : Int))).setCell ⟨g, i * 5 + 2, none⟩ (.int .i64 ((K + 2 : Nat) : Int))).setCell ⟨g, i * 5 + 3, none⟩ (.int .i64 ((K + 3 : Nat) : Int)) = setW wr g i K) := rfl
        have E1 : Hid ((K : Int) + 1 = ((K + 1 : Nat) : Int)) := by show _ = _; omega
        have E2 : Hid ((K : Int) + 1 + 1 = ((K + 2 : Nat) : Int)) := by show _ = _; omega
        have E3 : Hid ((K : Int) + 1 + 1 + 1 = ((K + 3 : Nat) : Int)) := by show _ = _; omega
        have E4 : Hid ((K : Int) + 1 + 1 + 1 + 1 = ((K + 4 : Nat) : Int)) := by show _ = _; omega
        have hx1 : 1 ≤ K + 4 := by omega
        have hx2 : K + 4 + q.b.recs.length ≤ 1000000000 := by omega
        have hx3 : B ≤ (setW wr g i K).heap.size := by rw [setW_size]; omega
        have hx6 : i + 1 ≤ qs.length := hlt
        have hBs : Below B w (setW wr g i K) := (((hB.setCell hg _).setCell hg _).setCell hg _).setCell hg _
        have HX : Hid (∀ b, b < w.heap.size → ¬ InLog (some ⟨g, 0, none⟩) qs b → (setW wr g i K).heap[b]? = w.heap[b]? ∧ b < (setW wr g i K).heap.size ∧ ¬ InBlock q.a q.b.recs.length b) := fun b hb hn => by
          have hbg : b ≠ g := fun e => hn (.inl (e ▸ ⟨by omega, 0, none, rfl⟩))
          refine ⟨(setW_block wr g i K b hbg).trans (HO.out b hb hn), by rw [setW_size]; omega, fun hb' => hn (.inr ⟨i, q, hq, hb'⟩)⟩
        clear hL hR hK hS hB hq
        go_wp2_with fail
        rw [E4.out, E3.out, E2.out, E1.out, HSW.out]
        refine (markStringS_any _ _ q.b.recs.length B (K + 4) _ hrow hx1 hx2 hx3).mono ?_
        rintro r w2 ⟨rfl, hS2, hR2, hB2, hO2⟩
        have hst := mk_step (k := k) HL.out HM.out HQ.out (by rw [HKK.out]; exact hS2) hR2 (by rw [HKK.out]; exact hO2)
        rw [HKK.out] at hst
        have HST : Hid (LgSt w2 B g m qs (setF f' i K) ∧ MkTo w2 (setF f' i K) qs k (i + 1)) := hst
        have HBn : Hid (Below B w w2) := hBs.trans hB2
        have HOn : Hid (∀ b, b < w.heap.size → ¬ InLog (some ⟨g, 0, none⟩) qs b → w2.heap[b]? = w.heap[b]?) := fun b hb hn => by
          obtain ⟨e1, e2, e3⟩ := HX.out b hb hn
          rw [hO2 b e2 e3, e1]
        have HR0 : Hid (((K + 4 + q.b.recs.length : Nat) : Int) = ((kTo (qs.take (i + 1)) k : Nat) : Int)) := by show _ = _; rw [HK.out, HKK.out]
        have HR : Hid ((K : Int) + 4 + (q.b.recs.length : Int) = ((kTo (qs.take (i + 1)) k : Nat) : Int)) := by show _ = _; rw [← HR0.out]; omega
        clear hst hS2 hR2 hB2 hO2 hBs hrow HX c0 c1 c2 c3 c4 fz
        go_wp2_with fail
        go_roundw
        case rel => exact ⟨i + 1, setF f' i K, hx6, by first | rw [HR.out] | rw [HR0.out], by go_num, HST.out.1, HST.out.2, HBn.out, HOn.out⟩
        case measure => simp [intOf]; omega
      · have hlt : i = qs.length := by omega
        have e : qs.take i = qs := List.take_of_length_le (by omega)
        have HBt : Hid (Bats wr (some ⟨g, 0, none⟩) (markQs qs k)) := mk_bats HL.out hm (hlt ▸ HM.out) H8.out
        rw [e]
        clear HM
        go_wp2
        go_ret
        exact ⟨rfl, HBt.out, hB, HO.out⟩

end Go.Proofs.YtjfmmnnidlgenaaDoor
