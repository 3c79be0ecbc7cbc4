/-
  Marks in lists of batches, the walks: markBatchS and heldBatchS.
-/
import Derived.Test.YtopndglgbollfaaDoorMarkLog
namespace Go.Proofs.YtopndglgbollfaaDoor
open Go.RowKit

theorem getQ {qs : List Q} {k : Nat} (h : k < qs.length) : ∃ q, qs[k]? = some q := ⟨_, List.getElem?_eq_getElem h⟩

set_option maxRecDepth 100000 in
set_option maxHeartbeats 4000000 in
theorem markBatchS_any (a : Option Addr) (c B k : Nat) (qs : List Q) (w w0 : World) (h : RdSt w0 w (.slice a qs.length c) qs) (hB0 : w0.heap.size = B) (_h1 : 1 ≤ k) (h2 : kTo qs k ≤ 1000000000) (hBw : B ≤ w.heap.size) (hq4 : qs.length ≤ 1000000) :
    Calls Tryd.prog 12 #[.slice a qs.length c, .int .i64 k] w fun r w' => r = .returned (.int .i64 ((kTo qs k : Nat) : Int)) ∧ Bats w' a (markQs qs k) ∧ Below B w w' ∧ ∀ b, b < w.heap.size → ¬ InLog a qs b → w'.heap[b]? = w.heap[b]? := by
  by_cases h0 : qs.length = 0
  · obtain rfl : qs = [] := List.eq_nil_of_length_eq_zero h0
    clear h h0 hB0
    go_enter Tryd.func12, Tryd.ntmps12
    go_wp2
    go_loopw [1, 5] (fun c i wr => c = .int .i64 (k : Int) ∧ i = .int .i64 0 ∧ w = wr) (fun _ _ _ => 0)
    case atStart => exact ⟨rfl, rfl, rfl⟩
    case round =>
      obtain ⟨rfl, rfl, rfl⟩ := hrel
      go_wp2
      go_ret
      exact ⟨rfl, (fun i s hi => by simp [markQs] at hi), Below.refl _ _, fun _ _ _ => rfl⟩
  · have h8 : ∀ q, q ∈ qs → q.b.recs.length ≤ 8 := fun q hq => (h.recs q hq).2.2
    obtain ⟨g, m, f, rfl, hg, hm, hL⟩ := lg_of_rd h (by omega)
    rw [hB0] at hg hL
    have H8 : Hid (∀ q, q ∈ qs → q.b.recs.length ≤ 8) := h8
    clear h hB0 h8
    go_enter Tryd.func12, Tryd.ntmps12
    go_wp2
    go_loopw [1, 5] (fun cv iv wr => ∃ (i : Nat) (f' : Nat → Value), i ≤ qs.length ∧ cv = .int .i64 ((kTo (qs.take i) k : Nat) : Int) ∧ iv = .int .i64 (i : Int) ∧ LgSt wr B g m qs f' ∧ MkTo wr f' qs k i ∧ Below B w wr ∧ ∀ b, b < w.heap.size → ¬ InLog (some ⟨g, 0, none⟩) qs b → wr.heap[b]? = w.heap[b]?) (fun _ iv _ => qs.length - (intOf iv).toNat)
    case atStart => exact ⟨0, f, Nat.zero_le _, rfl, rfl, hL, (fun j q hj => absurd hj (Nat.not_lt_zero _)), Below.refl _ _, fun _ _ _ => rfl⟩
    case round =>
      clear hL
      obtain ⟨i, f', hi, rfl, rfl, hL, hM, hB, hO⟩ := hrel
      have HM : Hid (MkTo wr f' qs k i) := hM
      have HO : Hid (∀ b, b < w.heap.size → ¬ InLog (some ⟨g, 0, none⟩) qs b → wr.heap[b]? = w.heap[b]?) := hO
      have HL : Hid (LgSt wr B g m qs f') := hL
      have hk1 := kTo_ge (qs.take i) k
      have hk2 := kTo_take qs i k
      clear hM hO
      by_cases hlt : i < qs.length
      · obtain ⟨q, hq⟩ := getQ hlt
        have HQ : Hid (qs[i]? = some q) := hq
        have hk3 := kTo_take qs (i + 1) k
        rw [takeQ_snoc hq, kTo_app] at hk3
        have HK : Hid (kTo (qs.take (i + 1)) k = kTo (qs.take i) k + 4 + q.b.recs.length) := by show _ = _; rw [takeQ_snoc hq, kTo_app]
        have hR := hL.row
        have c0 := hR.cell (i := i * 5) (by omega)
        have c1 := hR.cell (i := i * 5 + 1) (by omega)
        have c2 := hR.cell (i := i * 5 + 2) (by omega)
        have c3 := hR.cell (i := i * 5 + 3) (by omega)
        have c4 := hR.cell (i := i * 5 + 4) (by omega)
        rw [(hL.rcs i q hq).1] at c4
        have fz := hR.frozen
        have hBz := hB.size
        obtain ⟨K, hK⟩ : ∃ K, kTo (qs.take i) k = K := ⟨_, rfl⟩
        have HKK : Hid (kTo (qs.take i) k = K) := hK
        rw [hK] at hk1 hk2 hk3
        rw [hK]
        have hS := lg_set hL i K
        have hrow := (hS.rcs i q hq).2.1
        have HSW : Hid ((((wr.setCell ⟨g, i * 5, none⟩ (.int .i64 ((K : Nat) : Int))).setCell ⟨g, i * 5 + 1, none⟩ (.int .i64 ((K + 1 : Nat) : Int))).setCell ⟨g, i * 5 + 2, none⟩ (.int .i64 ((K + 2 : Nat) : Int))).setCell ⟨g, i * 5 + 3, none⟩ (.int .i64 ((K + 3 : Nat) : Int)) = setW wr g i K) := rfl
        have E1 : Hid ((K : Int) + 1 = ((K + 1 : Nat) : Int)) := by show _ = _; omega
        have E2 : Hid ((K : Int) + 1 + 1 = ((K + 2 : Nat) : Int)) := by show _ = _; omega
        have E3 : Hid ((K : Int) + 1 + 1 + 1 = ((K + 3 : Nat) : Int)) := by show _ = _; omega
        have E4 : Hid ((K : Int) + 1 + 1 + 1 + 1 = ((K + 4 : Nat) : Int)) := by show _ = _; omega
        have hx1 : 1 ≤ K + 4 := by omega
        have hx2 : K + 4 + q.b.recs.length ≤ 1000000000 := by omega
        have hx3 : B ≤ (setW wr g i K).heap.size := by rw [setW_size]; omega
        have hx6 : i + 1 ≤ qs.length := hlt
        have hBs : Below B w (setW wr g i K) := (((hB.setCell hg _).setCell hg _).setCell hg _).setCell hg _
        have HX : Hid (∀ b, b < w.heap.size → ¬ InLog (some ⟨g, 0, none⟩) qs b → (setW wr g i K).heap[b]? = w.heap[b]? ∧ b < (setW wr g i K).heap.size ∧ ¬ InBlock q.a q.b.recs.length b) := fun b hb hn => by
          have hbg : b ≠ g := fun e => hn (.inl (e ▸ ⟨by omega, 0, none, rfl⟩))
          refine ⟨(setW_block wr g i K b hbg).trans (HO.out b hb hn), by rw [setW_size]; omega, fun hb' => hn (.inr ⟨i, q, hq, hb'⟩)⟩
        clear hL hR hK hS hB hq
        go_wp2_with fail
        rw [E4.out, E3.out, E2.out, E1.out, HSW.out]
        refine (markStringS_any _ _ q.b.recs.length B (K + 4) _ hrow hx1 hx2 hx3).mono ?_
        rintro r w2 ⟨rfl, hS2, hR2, hB2, hO2⟩
        have hst := mk_step (k := k) HL.out HM.out HQ.out (by rw [HKK.out]; exact hS2) hR2 (by rw [HKK.out]; exact hO2)
        rw [HKK.out] at hst
        have HST : Hid (LgSt w2 B g m qs (setF f' i K) ∧ MkTo w2 (setF f' i K) qs k (i + 1)) := hst
        have HBn : Hid (Below B w w2) := hBs.trans hB2
        have HOn : Hid (∀ b, b < w.heap.size → ¬ InLog (some ⟨g, 0, none⟩) qs b → w2.heap[b]? = w.heap[b]?) := fun b hb hn => by
          obtain ⟨e1, e2, e3⟩ := HX.out b hb hn
          rw [hO2 b e2 e3, e1]
        have HR0 : Hid (((K + 4 + q.b.recs.length : Nat) : Int) = ((kTo (qs.take (i + 1)) k : Nat) : Int)) := by show _ = _; rw [HK.out, HKK.out]
        have HR : Hid ((K : Int) + 4 + (q.b.recs.length : Int) = ((kTo (qs.take (i + 1)) k : Nat) : Int)) := by show _ = _; rw [← HR0.out]; omega
        clear hst hS2 hR2 hB2 hO2 hBs hrow HX c0 c1 c2 c3 c4 fz
        go_wp2_with fail
        go_roundw
        case rel => exact ⟨i + 1, setF f' i K, hx6, by first | rw [HR.out] | rw [HR0.out], by go_num, HST.out.1, HST.out.2, HBn.out, HOn.out⟩
        case measure => simp [intOf]; omega
      · have hlt : i = qs.length := by omega
        have e : qs.take i = qs := List.take_of_length_le (by omega)
        have HBt : Hid (Bats wr (some ⟨g, 0, none⟩) (markQs qs k)) := mk_bats HL.out hm (hlt ▸ HM.out) H8.out
        rw [e]
        clear HM
        go_wp2
        go_ret
        exact ⟨rfl, HBt.out, hB, HO.out⟩

set_option maxRecDepth 100000 in
set_option maxHeartbeats 4000000 in
theorem heldBatchS_any (a : Option Addr) (c k : Nat) (qs : List Q) (w : World) (h : Bats w a (markQs qs k)) (h1 : 1 ≤ k) (h2 : kTo qs k ≤ 1000000000) (hq4 : qs.length ≤ 1000000) :
    Calls Tryd.prog 14 #[.slice a qs.length c, .int .i64 k] w fun r w' => r = .returned (.int .i64 ((kTo qs k : Nat) : Int)) ∧ Below w.heap.size w w' := by
  go_enter Tryd.func14, Tryd.ntmps14
  go_wp2
  go_loopw [1, 5] (fun cv iv wr => ∃ i : Nat, i ≤ qs.length ∧ cv = .int .i64 ((kTo (qs.take i) k : Nat) : Int) ∧ iv = .int .i64 (i : Int) ∧ Below w.heap.size w wr) (fun _ iv _ => qs.length - (intOf iv).toNat)
  case atStart => exact ⟨0, Nat.zero_le _, rfl, rfl, Below.refl _ _⟩
  case round =>
    obtain ⟨i, hi, rfl, rfl, hB⟩ := hrel
    have hk1 := kTo_ge (qs.take i) k
    have hk2 := kTo_take qs i k
    by_cases hlt : i < qs.length
    · obtain ⟨q, hq⟩ := getQ hlt
      have hk3 := kTo_take qs (i + 1) k
      rw [takeQ_snoc hq, kTo_app] at hk3
      have HK : Hid (kTo (qs.take (i + 1)) k = kTo (qs.take i) k + 4 + q.b.recs.length) := by show _ = _; rw [takeQ_snoc hq, kTo_app]
      obtain ⟨kb, ob, rfl, ra, rc, c0, c1, c2, c3, c4, hst, -⟩ := (h.below hB) i _ (markQs_get qs k i q hq)
      simp only [markQ, markL_length] at c0 c1 c2 c3 c4 hst
      obtain ⟨K, hK⟩ : ∃ K, kTo (qs.take i) k = K := ⟨_, rfl⟩
      rw [hK] at c0 c1 c2 c3 hst hk1 hk2 hk3
      have HKK : Hid (kTo (qs.take i) k = K) := hK
      rw [hK]
      have HS : Hid (Strs wr ra (markL (K + 4) q.b.recs.length)) := hst
      have E1 : Hid ((K : Int) + 1 = ((K + 1 : Nat) : Int)) := by show _ = _; omega
      have E4 : Hid ((K : Int) + 1 + 1 + 1 + 1 = ((K + 4 : Nat) : Int)) := by show _ = _; omega
      have e1 : ((K + 1 : Nat) : Int) = (K : Int) + 1 := by omega
      have e2 : ((K + 2 : Nat) : Int) = (K : Int) + 1 + 1 := by omega
      have e3 : ((K + 3 : Nat) : Int) = (K : Int) + 1 + 1 + 1 := by omega
      rw [e1] at c1
      rw [e2] at c2
      rw [e3] at c3
      have n0 : ((K : Int) != (K : Int)) = false := by simp
      have n1 : ((K : Int) + 1 != (K : Int) + 1) = false := by simp
      have n2 : ((K : Int) + 1 + 1 != (K : Int) + 1 + 1) = false := by simp
      have n3 : ((K : Int) + 1 + 1 + 1 != (K : Int) + 1 + 1 + 1) = false := by simp
      have hx1 : 1 ≤ K + 4 := by omega
      have hx2 : K + 4 + q.b.recs.length ≤ 1000000000 := by omega
      have hx6 : i + 1 ≤ qs.length := hlt
      have hx7 : ¬ (((K + 4 + q.b.recs.length : Nat) : Int) < 0) := by omega
      have HR0 : Hid (((K + 4 + q.b.recs.length : Nat) : Int) = ((kTo (qs.take (i + 1)) k : Nat) : Int)) := by show _ = _; rw [HK.out, HKK.out]
      have HR : Hid ((K : Int) + 4 + (q.b.recs.length : Int) = ((kTo (qs.take (i + 1)) k : Nat) : Int)) := by show _ = _; rw [← HR0.out]; omega
      clear h hq hst hK e1 e2 e3
      go_wp2_with fail
      rw [E4.out]
      refine (heldStringS_any _ _ q.b.recs.length (K + 4) _ HS.out hx1 hx2).mono ?_
      rintro r w2 ⟨rfl, hB2⟩
      have HBn : Hid (Below w.heap.size w w2) := hB.trans (hB2.mono hB.size)
      clear hB2 hB c0 c1 c2 c3 c4
      go_wp2_with fail
      go_roundw
      case rel => exact ⟨i + 1, hx6, by first | rw [HR.out] | rw [HR0.out], by go_num, HBn.out⟩
      case measure => simp [intOf]; omega
    · have e : qs.take i = qs := List.take_of_length_le (by omega)
      rw [e]
      go_wp2
      go_ret
      exact ⟨rfl, hB⟩

end Go.Proofs.YtopndglgbollfaaDoor
