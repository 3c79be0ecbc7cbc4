/-
  Marks in lists of batches once more: markBatchS over a list's rows alone.
-/
import Derived.Test.YtopndglgbollfaaDoorMarkLog2
namespace Go.Proofs.YtopndglgbollfaaDoor
open Go.RowKit

/-- The list's row and its batches' records' rows, from B on. -/
def LogRow (w : World) (B : Nat) (a : Option Addr) (qs : List Q) : Prop :=
  qs.length = 0 ∨ ∃ g m f, a = some ⟨g, 0, none⟩ ∧ B ≤ g ∧ qs.length * 5 ≤ m ∧ LgSt w B g m qs f

theorem LogRow.of_rd {w0 w : World} {a : Option Addr} {c : Nat} {qs : List Q} (h : RdSt w0 w (.slice a qs.length c) qs) : LogRow w w0.heap.size a qs := by
  by_cases h0 : qs.length = 0
  · exact .inl h0
  · exact .inr (lg_of_rd h (by omega))

theorem LogRow.lt {w : World} {B : Nat} {a : Option Addr} {qs : List Q} (h : LogRow w B a qs) {b : Nat} (hb : InLog a qs b) : B ≤ b ∧ b < w.heap.size := by
  rcases h with h | ⟨g, m, f, rfl, hg, hm, hL⟩
  · have e : qs = [] := List.eq_nil_of_length_eq_zero h
    subst e
    rcases hb with ⟨h0, -⟩ | ⟨i, q, hq, -⟩
    · simp at h0
    · simp at hq
  · rcases hb with ⟨-, o, s, e⟩ | ⟨i, q, hq, hk⟩
    · simp only [Option.some.injEq, Addr.mk.injEq] at e
      have := hL.row.lt
      omega
    · exact (hL.rcs i q hq).2.1.lt hk

theorem LogRow.of_block {w w' : World} {B : Nat} {a : Option Addr} {qs : List Q} (h : LogRow w B a qs) (hs : ∀ b, InLog a qs b → w'.heap[b]? = w.heap[b]?) : LogRow w' B a qs := by
  by_cases h0 : qs.length = 0
  · exact .inl h0
  obtain ⟨g, m, f, rfl, hg, hm, hL⟩ := h.resolve_left h0
  refine .inr ⟨g, m, f, rfl, hg, hm, hL.row.of_block (hs g (.inl ⟨by omega, 0, none, rfl⟩)), fun i q hq => ?_, hL.dis⟩
  obtain ⟨h1, h2, h3⟩ := hL.rcs i q hq
  exact ⟨h1, h2.of_block (fun b hb => hs b (.inr ⟨i, q, hq, hb⟩)), h3⟩

theorem LogRow.below {w w' : World} {B : Nat} {a : Option Addr} {qs : List Q} (h : LogRow w B a qs) (hb : Below w.heap.size w w') : LogRow w' B a qs :=
  h.of_block fun b hi => hb.block b (h.lt hi).2

/-- Batches that lie in a list's blocks stay where these stay. -/
theorem Bats.of_log {w w' : World} {a : Option Addr} {bs : List Bt} (h : Bats w a bs) (hs : ∀ b, b < w.heap.size → w'.heap[b]? = w.heap[b]?) : Bats w' a bs := fun i b hi => by
  obtain ⟨k, o, e, ra, rc, h0, h1, h2, h3, h4, hst, hl⟩ := h i b hi
  have lt := lt_of_cell h0
  have c : ∀ j, w'.cell? ⟨k, j, none⟩ = w.cell? ⟨k, j, none⟩ := fun j => World.cell?_of_block (a := ⟨k, j, none⟩) (hs k lt)
  refine ⟨k, o, e, ra, rc, (c _).trans h0, (c _).trans h1, (c _).trans h2, (c _).trans h3, (c _).trans h4, fun i s hi => ?_, hl⟩
  obtain ⟨b', off, e', hc, hz⟩ := hst i s hi
  exact ⟨b', off, e', (World.cell?_of_block (a := ⟨b', off + i, none⟩) (hs b' (lt_of_cell hc))).trans hc, hz⟩

set_option maxRecDepth 100000 in
set_option maxHeartbeats 4000000 in
theorem markBatchS_row (a : Option Addr) (c B k : Nat) (qs : List Q) (w : World) (h : LogRow w B a qs) (h8 : ∀ q, q ∈ qs → q.b.recs.length ≤ 8) (h2 : kTo qs k ≤ 1000000000) (hBw : B ≤ w.heap.size) (hq4 : qs.length ≤ 1000000) :
    Calls Tryd.prog 12 #[.slice a qs.length c, .int .i64 k] w fun r w' => r = .returned (.int .i64 ((kTo qs k : Nat) : Int)) ∧ Bats w' a (markQs qs k) ∧ Below B w w' ∧ ∀ b, b < w.heap.size → ¬ InLog a qs b → w'.heap[b]? = w.heap[b]? := by
  by_cases h0 : qs.length = 0
  · obtain rfl : qs = [] := List.eq_nil_of_length_eq_zero h0
    clear h h0
    go_enter Tryd.func12, Tryd.ntmps12
    go_wp2
    go_loopw [1, 5] (fun c i wr => c = .int .i64 (k : Int) ∧ i = .int .i64 0 ∧ w = wr) (fun _ _ _ => 0)
    case atStart => exact ⟨rfl, rfl, rfl⟩
    case round =>
      obtain ⟨rfl, rfl, rfl⟩ := hrel
      go_wp2
      go_ret
      exact ⟨rfl, (fun i s hi => by simp [markQs] at hi), Below.refl _ _, fun _ _ _ => rfl⟩
  · obtain ⟨g, m, f, rfl, hg, hm, hL⟩ := h.resolve_left h0
    have H8 : Hid (∀ q, q ∈ qs → q.b.recs.length ≤ 8) := h8
    clear h h8
    go_enter Tryd.func12, Tryd.ntmps12
    go_wp2
    go_loopw [1, 5] (fun cv iv wr => ∃ (i : Nat) (f' : Nat → Value), i ≤ qs.length ∧ cv = .int .i64 ((kTo (qs.take i) k : Nat) : Int) ∧ iv = .int .i64 (i : Int) ∧ LgSt wr B g m qs f' ∧ MkTo wr f' qs k i ∧ Below B w wr ∧ ∀ b, b < w.heap.size → ¬ InLog (some ⟨g, 0, none⟩) qs b → wr.heap[b]? = w.heap[b]?) (fun _ iv _ => qs.length - (intOf iv).toNat)
    case atStart => exact ⟨0, f, Nat.zero_le _, rfl, rfl, hL, (fun j q hj => absurd hj (Nat.not_lt_zero _)), Below.refl _ _, fun _ _ _ => rfl⟩
    case round =>
      clear hL
      obtain ⟨i, f', hi, rfl, rfl, hL, hM, hB, hO⟩ := hrel
      have HM : Hid (MkTo wr f' qs k i) := hM
      have HO : Hid (∀ b, b < w.heap.size → ¬ InLog (some ⟨g, 0, none⟩) qs b → wr.heap[b]? = w.heap[b]?) := hO
      have HL : Hid (LgSt wr B g m qs f') := hL
      have hk1 := kTo_ge (qs.take i) k
      have hk2 := kTo_take qs i k
      clear hM hO
      by_cases hlt : i < qs.length
      · obtain ⟨q, hq⟩ := getQ hlt
        have HQ : Hid (qs[i]? = some q) := hq
        have hk3 := kTo_take qs (i + 1) k
        rw [takeQ_snoc hq, kTo_app] at hk3
        have HK : Hid (kTo (qs.take (i + 1)) k = kTo (qs.take i) k + 4 + q.b.recs.length) := by show _ = _; rw [takeQ_snoc hq, kTo_app]
        have hR := hL.row
        have c0 := hR.cell (i := i * 5) (by omega)
        have c1 := hR.cell (i := i * 5 + 1) (by omega)
        have c2 := hR.cell (i := i * 5 + 2) (by omega)
        have c3 := hR.cell (i := i * 5 + 3) (by omega)
        have c4 := hR.cell (i := i * 5 + 4) (by omega)
        rw [(hL.rcs i q hq).1] at c4
        have fz := hR.frozen
        have hBz := hB.size
        obtain ⟨K, hK⟩ : ∃ K, kTo (qs.take i) k = K := ⟨_, rfl⟩
        have HKK : Hid (kTo (qs.take i) k = K) := hK
        rw [hK] at hk1 hk2 hk3
        rw [hK]
        have hS := lg_set hL i K
        have hrow := (hS.rcs i q hq).2.1
        have HSW : Hid ((((wr.setCell ⟨g, i * 5, none⟩ (.int .i64 ((K : Nat) : Int))).setCell ⟨g, i * 5 + 1, none⟩ (.int .i64 ((K + 1 : Nat) : Int))).setCell ⟨g, i * 5 + 2, none⟩ (.int .i64 ((K + 2 : Nat) : Int))).setCell ⟨g, i * 5 + 3, none⟩ (.int .i64 ((K + 3 : Nat) : Int)) = setW wr g i K) := rfl
        have E1 : Hid ((K : Int) + 1 = ((K + 1 : Nat) : Int)) := by show _ = _; omega
        have E2 : Hid ((K : Int) + 1 + 1 = ((K + 2 : Nat) : Int)) := by show _ = _; omega
        have E3 : Hid ((K : Int) + 1 + 1 + 1 = ((K + 3 : Nat) : Int)) := by show _ = _; omega
        have E4 : Hid ((K : Int) + 1 + 1 + 1 + 1 = ((K + 4 : Nat) : Int)) := by show _ = _; omega
        have hx1 : 1 ≤ K + 4 := by omega
        have hx2 : K + 4 + q.b.recs.length ≤ 1000000000 := by omega
        have hx3 : B ≤ (setW wr g i K).heap.size := by rw [setW_size]; omega
        have hx6 : i + 1 ≤ qs.length := hlt
        have hBs : Below B w (setW wr g i K) := (((hB.setCell hg _).setCell hg _).setCell hg _).setCell hg _
        have HX : Hid (∀ b, b < w.heap.size → ¬ InLog (some ⟨g, 0, none⟩) qs b → (setW wr g i K).heap[b]? = w.heap[b]? ∧ b < (setW wr g i K).heap.size ∧ ¬ InBlock q.a q.b.recs.length b) := fun b hb hn => by
          have hbg : b ≠ g := fun e => hn (.inl (e ▸ ⟨by omega, 0, none, rfl⟩))
          refine ⟨(setW_block wr g i K b hbg).trans (HO.out b hb hn), by rw [setW_size]; omega, fun hb' => hn (.inr ⟨i, q, hq, hb'⟩)⟩
        clear hL hR hK hS hB hq
        go_wp2_with fail
        rw [E4.out, E3.out, E2.out, E1.out, HSW.out]
        refine (markStringS_any _ _ q.b.recs.length B (K + 4) _ hrow hx1 hx2 hx3).mono ?_
        rintro r w2 ⟨rfl, hS2, hR2, hB2, hO2⟩
        have hst := mk_step (k := k) HL.out HM.out HQ.out (by rw [HKK.out]; exact hS2) hR2 (by rw [HKK.out]; exact hO2)
        rw [HKK.out] at hst
        have HST : Hid (LgSt w2 B g m qs (setF f' i K) ∧ MkTo w2 (setF f' i K) qs k (i + 1)) := hst
        have HBn : Hid (Below B w w2) := hBs.trans hB2
        have HOn : Hid (∀ b, b < w.heap.size → ¬ InLog (some ⟨g, 0, none⟩) qs b → w2.heap[b]? = w.heap[b]?) := fun b hb hn => by
          obtain ⟨e1, e2, e3⟩ := HX.out b hb hn
          rw [hO2 b e2 e3, e1]
        have HR0 : Hid (((K + 4 + q.b.recs.length : Nat) : Int) = ((kTo (qs.take (i + 1)) k : Nat) : Int)) := by show _ = _; rw [HK.out, HKK.out]
        have HR : Hid ((K : Int) + 4 + (q.b.recs.length : Int) = ((kTo (qs.take (i + 1)) k : Nat) : Int)) := by show _ = _; rw [← HR0.out]; omega
        clear hst hS2 hR2 hB2 hO2 hBs hrow HX c0 c1 c2 c3 c4 fz
        go_wp2_with fail
        go_roundw
        case rel => exact ⟨i + 1, setF f' i K, hx6, by first | rw [HR.out] | rw [HR0.out], by go_num, HST.out.1, HST.out.2, HBn.out, HOn.out⟩
        case measure => simp [intOf]; omega
      · have hlt : i = qs.length := by omega
        have e : qs.take i = qs := List.take_of_length_le (by omega)
        have HBt : Hid (Bats wr (some ⟨g, 0, none⟩) (markQs qs k)) := mk_bats HL.out hm (hlt ▸ HM.out) H8.out
        rw [e]
        clear HM
        go_wp2
        go_ret
        exact ⟨rfl, HBt.out, hB, HO.out⟩

end Go.Proofs.YtopndglgbollfaaDoor
