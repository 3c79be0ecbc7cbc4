/-
  spec.WriteBatch at any arguments.
-/
import Derived.Test.YteklkdnkfgfdiaaDoorWrite6
namespace Go.Proofs.YteklkdnkfgfdiaaDoor
open Go.RowKit

theorem wrote_stay {fs : List Fl} {i : Nat} {f : Fl} {b : Bt} (hin : inF fs i = true) (hf : fs[i]? = some f) (h : followB (readL f.bytes.data.toList).1.getLast? b = false) : wrote fs i b = none := by
  unfold wrote
  split
  · rw [chg_some hin hf]
    unfold entryF
    rw [if_neg (fun g => by rw [h] at g; exact absurd g.2 (by simp))]
    rfl
  · rfl

theorem wrote_tail {fs : List Fl} {i : Nat} {f : Fl} {o e p q : Nat} {ss : List ByteArray} (hin : inF fs i = true) (hf : fs[i]? = some f) (hg : Bt.good ⟨o, e, p, q, ss⟩ = true) (hz : (readL f.bytes.data.toList).2 = f.bytes.size) (h : followB (readL f.bytes.data.toList).1.getLast? ⟨o, e, p, q, ss⟩ = true) : wrote fs i ⟨o, e, p, q, ss⟩ = chg fs i (tailF ⟨(bytesOf o e p q ss).toArray⟩) := by
  unfold wrote
  rw [if_pos hg, chg_some hin hf, chg_some hin hf]
  unfold entryF
  rw [if_pos ⟨hz, h⟩]
  show Option.map _ (tailF (encS o e p q ss) f) = _
  rw [encS_t hg]

theorem enc_small {o e p q : Nat} {ss : List ByteArray} (h5 : ss.length ≤ 8) (h6 : ∀ s, s ∈ ss → s.size ≤ 20) : (ByteArray.mk (bytesOf o e p q ss).toArray).size ≤ maxLen := by
  have h := recLen_le ss h6
  have e1 : (ByteArray.mk (bytesOf o e p q ss).toArray).size = (bytesOf o e p q ss).length := by simp [ByteArray.size]
  rw [e1, bytesOf_len]
  unfold maxLen
  omega

theorem encS_small (o e p q : Int) (ss : List ByteArray) : (encS o e p q ss).size ≤ maxLen := by
  cases hg : Bt.good ⟨o, e, p, q, ss⟩ with
  | false => rw [encS_f hg]; exact Nat.zero_le _
  | true =>
    obtain ⟨o, e, p, q, rfl, rfl, rfl, rfl, -, -, -, -, -, h5, h6⟩ := good_all hg
    rw [encS_t hg]
    exact enc_small h5 h6

set_option maxRecDepth 100000 in
set_option maxHeartbeats 4000000 in
theorem specWrite_whole (a : Option Addr) (c : Nat) (fs : List Fl) (i : Nat) (f : Fl) (o e p q : Nat) (ss : List ByteArray) (a2 : Option Addr) (c2 : Nat) (w : World) (hs : Fls w a fs) (hl : fs.length ≤ maxLen) (hb : Strs w a2 ss) (hbl : ss.length ≤ maxLen) (hin : inF fs i = true) (hf : fs[i]? = some f) (hgd : Bt.good ⟨o, e, p, q, ss⟩ = true) (hz : (readL f.bytes.data.toList).2 = f.bytes.size) :
    Calls Tryd.prog 6 #[.agg #[.slice a fs.length c], .int .i64 i, .agg #[.int .i64 (o : Int), .int .i64 (e : Int), .int .i64 (p : Int), .int .i64 (q : Int), .slice a2 ss.length c2]] w fun r w' => ∃ a' c', r = .returned (.tuple #[.agg #[.slice a' (filesOf (wrote fs i ⟨o, e, p, q, ss⟩)).length c'], .bool (wrote fs i ⟨o, e, p, q, ss⟩).isSome]) ∧ Fls w' a' (filesOf (wrote fs i ⟨o, e, p, q, ss⟩)) ∧ RowF w' w.heap.size a' (filesOf (wrote fs i ⟨o, e, p, q, ss⟩)).length ∧ Below w.heap.size w w' := by
  have hb3 : ∀ x y z, Below w.heap.size w (((w.alloc x).alloc y).alloc z) := fun _ _ _ => (((Below.refl _ _).alloc (Nat.le_refl _) _).alloc (by simp) _).alloc (by simp; omega) _
  have HI : Hid (inF fs i = true) := hin
  have HG : Hid (Bt.good ⟨o, e, p, q, ss⟩ = true) := hgd
  obtain ⟨hgD, hk0, hk1⟩ := inF_t hin
  obtain ⟨l1, l4, hok⟩ := goodD_t hgD
  obtain ⟨f4, f0, f1⟩ := okF_parts (hok f (List.mem_of_getElem? hf))
  have HF0 : Hid (fs[i]? = some f) := hf
  have hfb : f.bytes.size ≤ 2000000 := by omega
  have HZ : Hid ((readL f.bytes.data.toList).2 = f.bytes.size) := hz
  have hrl := readR_len f.bytes.data.toList (f.bytes.data.toList.length + 1) none 0 (Nat.zero_le _)
  rw [size_len] at hrl
  have HRL : Hid ((readL f.bytes.data.toList).1.length ≤ 1000000) := by show _ ≤ _; unfold readL; rw [size_len]; omega
  obtain ⟨o1, e1, p1, q1, ho1, he1, hp1, hq1, h1, h2, h3, h4, -, h5, h6⟩ := good_all hgd
  obtain rfl : o = o1 := by omega
  obtain rfl : e = e1 := by omega
  obtain rfl : p = p1 := by omega
  obtain rfl : q = q1 := by omega
  have H6 : Hid (∀ s, s ∈ ss → s.size ≤ 20) := h6
  have hsz : (ByteArray.mk (bytesOf o e p q ss).toArray).size ≤ maxLen := enc_small h5 h6
  have hil : i < fs.length := by omega
  clear hin hgd hok hgD hf hz hrl h6 ho1 he1 hp1 hq1
  generalize hO : wrote fs i ⟨o, e, p, q, ss⟩ = O
  have HO : Hid (wrote fs i ⟨o, e, p, q, ss⟩ = O) := hO
  clear hO
  go_enter Tryd.func6, Tryd.ntmps6
  go_wp2_with fail
  refine (specFile_any _ _ _ _ _ (hs.below (hb3 _ _ _)) hl).mono ?_
  rintro r w1 ⟨hr, hB1⟩
  rw [HI.out] at hr; subst hr
  have BB := (hb3 _ _ _).trans (hB1.mono (hb3 _ _ _).size)
  have HA := (hs.below (hb3 _ _ _)).below hB1
  have HB := (hb.below (hb3 _ _ _)).below hB1
  obtain ⟨hc1, hf1⟩ := fbcell hB1
  have l1 := hB1.size
  simp only [World.size_alloc] at hc1 hf1 l1
  clear hB1
  go_wp2_with fail
  refine (specGood_any _ _ _ _ _ _ _ _ HB hbl).mono ?_
  rintro r w2 ⟨hr, hB2⟩
  rw [HG.out] at hr; subst hr
  have BB2 := BB.trans (hB2.mono BB.size)
  obtain ⟨hc2, hf2⟩ := fbcell hB2
  have l2 := hB2.size
  have hc12 := fun b o (h : b < w.heap.size + 1 + 1 + 1) => (hc2 b o (by omega)).trans (hc1 b o h)
  have hf12 := fun b o (h : b < w.heap.size + 1 + 1 + 1) => (hf2 b o (by omega)).trans (hf1 b o h)
  have HA2 := HA.below hB2
  have HB2 := HB.below hB2
  obtain ⟨kb, ob, hae, d0, d1, -⟩ := HA2 i f HF0.out
  subst hae
  clear hB2 hc1 hf1 hc2 hf2 hs hb HB
  go_wp2_with fail
  refine (l1Read_any f.bytes _ hfb).mono ?_
  rintro r w3 ⟨qs, a3, c3, rfl, hq, hst⟩
  rw [HZ.out]
  have hB3 := hst.bel
  have BB3 := BB2.trans (hB3.mono BB2.size)
  obtain ⟨hc3, hf3⟩ := fbcell hB3
  have hc13 := fun b o (h : b < w.heap.size + 1 + 1 + 1) => (hc3 b o (by omega)).trans (hc12 b o h)
  have hf13 := fun b o (h : b < w.heap.size + 1 + 1 + 1) => (hf3 b o (by omega)).trans (hf12 b o h)
  have HA3 := HA2.below hB3
  have HB3 := HB2.below hB3
  obtain ⟨kb', ob', hae, e0, e1, -⟩ := HA3 i f HF0.out
  simp only [Option.some.injEq, Addr.mk.injEq, and_true] at hae
  obtain ⟨rfl, rfl⟩ := hae
  have x0 : w3.cell? ⟨w.heap.size, 0, none⟩ = some (.slice (some ⟨kb, ob, none⟩) fs.length c) := (hc13 _ _ (by omega)).trans (by simp [go_sem])
  have x1 : w3.cell? ⟨w.heap.size + 1, 0, none⟩ = some (.int .i64 (o : Int)) ∧ w3.cell? ⟨w.heap.size + 1, 1, none⟩ = some (.int .i64 (e : Int)) ∧ w3.cell? ⟨w.heap.size + 1, 2, none⟩ = some (.int .i64 (p : Int)) ∧ w3.cell? ⟨w.heap.size + 1, 3, none⟩ = some (.int .i64 (q : Int)) ∧ w3.cell? ⟨w.heap.size + 1, 4, none⟩ = some (.slice a2 ss.length c2) := ⟨(hc13 _ _ (by omega)).trans (by simp [go_sem]), (hc13 _ _ (by omega)).trans (by simp [go_sem]), (hc13 _ _ (by omega)).trans (by simp [go_sem]), (hc13 _ _ (by omega)).trans (by simp [go_sem]), (hc13 _ _ (by omega)).trans (by simp [go_sem])⟩
  have rr : w3.cell? ⟨w.heap.size + 1 + 1, 0, none⟩ = some (.slice none 0 0) := (hc13 _ _ (by omega)).trans (by simp [go_sem])
  have rf : w3.frozen? ⟨w.heap.size + 1 + 1, 0, none⟩ = false := (hf13 _ _ (by omega)).trans (by simp [go_sem])
  have hlI : (i : Int) < (fs.length : Int) := by omega
  have hqm : qs.length ≤ 1000000 := by have := HRL.out; rw [← hq, qsB_len] at this; exact this
  have l3 : w.heap.size + 1 + 1 + 1 ≤ w3.heap.size := by have := hB3.size; omega
  clear hB3 hc12 hf12 hc3 hf3 hc13 hf13 HA2 HA HB2 d0 d1
  cases hlast : qs.getLast? with
  | none =>
    obtain rfl : qs = [] := List.getLast?_eq_none_iff.1 hlast
    have HE : Hid (O = chg fs i (tailF ⟨(bytesOf o e p q ss).toArray⟩)) := by
      show _ = _
      rw [← HO.out]
      exact wrote_tail HI.out HF0.out HG.out HZ.out (by rw [← hq]; rfl)
    have hd1 : decide ((0 : Int) < (([] : List Q).length : Int)) = false := by simp
    have hd2 : decide (0 < ([] : List Q).length) = false := by simp
    have hnz : (((f.bytes.size : Nat) : Int) != ((f.bytes.size : Nat) : Int)) = false := by simp
    clear hlast hq hst
    go_wp2_with fail
    go_quiet (fail)
    have T := below_drewN (Below.refl w3.heap.size w3) nq
    have BB4 := BB3.trans (T.mono BB3.size)
    go_wp2_with fail
    refine wb6 _ w.heap.size (some ⟨kb, ob, none⟩) fs c (i : Int) o e p q ss a2 c2 _ _ _ _ _ _ _ _ _ _ _ _ _ _ _ _ _ _ _ _ _ _ _ _ _ _ _ _ _ _ _ _ _ _ _ _ _ _ _ _ _ _ _ _ _ _ _ _ _ _ _ _ _ _ _ _ _ _ _ _ (HA3.below T) hl (HB3.below T) h1 h2 h3 h4 h5 H6 hsz (six_keep T ⟨x0, x1⟩) (one_keep T ⟨rr, rf⟩) ?_
    intro v56 v57 v58 v59 v60 v61 v62 w5 a5 c5 hB5 hF hR
    have BB5 := BB4.trans (hB5.mono BB4.size)
    have rr5 := one_keep hB5 (one_keep T ⟨rr, rf⟩)
    have l5 := hB5.size
    have hT := T.size
    rw [← HE.out] at hF hR ⊢
    have hset : ∀ v x, InB a5 (filesOf O).length x → (w5.setCell ⟨w.heap.size + 1 + 1, 0, none⟩ v).heap[x]? = w5.heap[x]? := fun v x hx => by
      have := (hR.lt hx).1
      exact Below.heap_setCell _ ⟨w.heap.size + 1 + 1, 0, none⟩ v x (by show x ≠ w.heap.size + 1 + 1; omega)
    have HEE : Hid (∀ v, Fls (w5.setCell ⟨w.heap.size + 1 + 1, 0, none⟩ v) a5 (filesOf O) ∧ RowF (w5.setCell ⟨w.heap.size + 1 + 1, 0, none⟩ v) w.heap.size a5 (filesOf O).length ∧ Below w.heap.size w (w5.setCell ⟨w.heap.size + 1 + 1, 0, none⟩ v)) := fun v => ⟨hF.of_block (hset v), (hR.of_block (hset v)).mono (by omega), BB5.setCell (by show w.heap.size ≤ w.heap.size + 1 + 1; omega) _⟩
    have r0 := rr5.1
    clear hB5 hset hF hR rr5
    go_wp2
    refine bodyPost_ret (v := .tuple #[.agg #[.slice a5 (filesOf O).length c5], .bool O.isSome]) (by simp [results, Tryd.results6, go_sem, r0]) rfl ⟨a5, c5, rfl, (HEE.out _).1, (HEE.out _).2.1, (HEE.out _).2.2⟩
  | some x =>
    obtain ⟨m, hm⟩ : ∃ m, qs.length = m + 1 := ⟨qs.length - 1, by
      cases qs with
      | nil => simp at hlast
      | cons q r => simp⟩
    have hqm2 : qs[m]? = some x := by rw [List.getLast?_eq_getElem?, hm] at hlast; exact hlast
    have hbq : (qsB qs)[m]? = some x.b := by simp [qsB, hqm2]
    have hlq : (qsB qs).getLast? = some x.b := by rw [List.getLast?_eq_getElem?, qsB_len, hm]; exact hbq
    rw [hq] at hlq
    obtain ⟨lb, lo, hav, ra, rc, y0, y1, y2, y3, y4, -, -⟩ := rd_bats hst m x.b hbq
    subst hav
    have hm6 : m ≤ 1000000 := by omega
    have kk4 : (w3.cell? ⟨w.heap.size, 0, none⟩ = some (.slice (some ⟨kb, ob, none⟩) fs.length c) ∧ w3.cell? ⟨kb, ob + i * 2, none⟩ = some (.string f.bytes)) ∧ (w3.cell? ⟨lb, lo + m * 5, none⟩ = some (.int .i64 x.b.off) ∧ w3.cell? ⟨lb, lo + m * 5 + 1, none⟩ = some (.int .i64 x.b.ep) ∧ w3.cell? ⟨lb, lo + m * 5 + 2, none⟩ = some (.int .i64 x.b.pr) ∧ w3.cell? ⟨lb, lo + m * 5 + 3, none⟩ = some (.int .i64 x.b.sq) ∧ w3.cell? ⟨lb, lo + m * 5 + 4, none⟩ = some (.slice ra x.b.recs.length rc)) ∧ w3.cell? ⟨w.heap.size + 1, 0, none⟩ = some (.int .i64 (o : Int)) ∧ w3.cell? ⟨w.heap.size + 1, 1, none⟩ = some (.int .i64 (e : Int)) ∧ w3.cell? ⟨w.heap.size + 1, 2, none⟩ = some (.int .i64 (p : Int)) ∧ w3.cell? ⟨w.heap.size + 1, 3, none⟩ = some (.int .i64 (q : Int)) ∧ w3.cell? ⟨w.heap.size + 1, 4, none⟩ = some (.slice a2 ss.length c2) := ⟨⟨x0, e0⟩, ⟨y0, y1, y2, y3, y4⟩, x1⟩
    rw [hm]
    obtain ⟨nx, hnx⟩ : ∃ nx, nextB x.b ⟨o, e, p, q, ss⟩ = nx := ⟨_, rfl⟩
    have HNX : Hid (nextB x.b ⟨o, e, p, q, ss⟩ = nx) := hnx
    have HFO : Hid (followB (readL f.bytes.data.toList).1.getLast? ⟨o, e, p, q, ss⟩ = nx) := by show _ = _; rw [hlq]; exact hnx
    clear hnx hlast hqm2 hbq hlq hq hst hm hqm y0 y1 y2 y3 y4 e0 e1
    cases nx with
    | false =>
      have HE : Hid (O = none) := by show _ = _; rw [← HO.out]; exact wrote_stay HI.out HF0.out HFO.out
      go_wp2_with fail
      refine wb4 _ w.heap.size kb ob fs.length c i lb lo m c3 (w.heap.size + 1) f.bytes x.b ⟨o, e, p, q, ss⟩ ra a2 rc c2 _ _ _ _ _ _ _ _ _ _ _ _ _ _ _ _ _ _ _ _ _ _ _ _ _ _ _ _ _ _ _ _ _ _ _ _ _ _ _ _ _ _ _ _ _ _ _ _ _ _ _ _ _ _ _ _ _ _ _ _ hm6 hil kk4 HNX ?_
      intro v30 v31 v32 v33 v34 v35 v36 v37 v38 v39 v40 v41 v42 v43 v44 v45 v46 v47 v48 v49 v50 v51 v52 v53 w4 hB4
      have BB4 := BB3.trans (hB4.mono BB3.size)
      have rr4 := one_keep hB4 ⟨rr, rf⟩
      obtain ⟨r0, r1⟩ := rr4
      clear hB4
      go_wp2
      refine bodyPost_ret (v := .tuple #[.agg #[.slice none 0 0], .bool false]) (by simp [results, Tryd.results6, go_sem, r0]) rfl (by rw [HE.out]; exact ⟨none, 0, rfl, Fls.nil _ _, .inl rfl, BB4.setCell (by show w.heap.size ≤ w.heap.size + 1 + 1; omega) _⟩)
    | true =>
      have HE : Hid (O = chg fs i (tailF ⟨(bytesOf o e p q ss).toArray⟩)) := by show _ = _; rw [← HO.out]; exact wrote_tail HI.out HF0.out HG.out HZ.out HFO.out
      go_wp2_with fail
      refine wb4 _ w.heap.size kb ob fs.length c i lb lo m c3 (w.heap.size + 1) f.bytes x.b ⟨o, e, p, q, ss⟩ ra a2 rc c2 _ _ _ _ _ _ _ _ _ _ _ _ _ _ _ _ _ _ _ _ _ _ _ _ _ _ _ _ _ _ _ _ _ _ _ _ _ _ _ _ _ _ _ _ _ _ _ _ _ _ _ _ _ _ _ _ _ _ _ _ hm6 hil kk4 HNX ?_
      intro v30 v31 v32 v33 v34 v35 v36 v37 v38 v39 v40 v41 v42 v43 v44 v45 v46 v47 v48 v49 v50 v51 v52 v53 w4 T
      have BB4 := BB3.trans (T.mono BB3.size)
      go_wp2_with fail
      refine wb6 _ w.heap.size (some ⟨kb, ob, none⟩) fs c (i : Int) o e p q ss a2 c2 _ _ _ _ _ _ _ _ _ _ _ _ _ _ _ _ _ _ _ _ _ _ _ _ _ _ _ _ _ _ _ _ _ _ _ _ _ _ _ _ _ _ _ _ _ _ _ _ _ _ _ _ _ _ _ _ _ _ _ _ (HA3.below T) hl (HB3.below T) h1 h2 h3 h4 h5 H6 hsz (six_keep T ⟨x0, x1⟩) (one_keep T ⟨rr, rf⟩) ?_
      intro v56 v57 v58 v59 v60 v61 v62 w5 a5 c5 hB5 hF hR
      have BB5 := BB4.trans (hB5.mono BB4.size)
      have rr5 := one_keep hB5 (one_keep T ⟨rr, rf⟩)
      have l5 := hB5.size
      have hT := T.size
      rw [← HE.out] at hF hR ⊢
      have hset : ∀ v x, InB a5 (filesOf O).length x → (w5.setCell ⟨w.heap.size + 1 + 1, 0, none⟩ v).heap[x]? = w5.heap[x]? := fun v x hx => by
        have := (hR.lt hx).1
        exact Below.heap_setCell _ ⟨w.heap.size + 1 + 1, 0, none⟩ v x (by show x ≠ w.heap.size + 1 + 1; omega)
      have HEE : Hid (∀ v, Fls (w5.setCell ⟨w.heap.size + 1 + 1, 0, none⟩ v) a5 (filesOf O) ∧ RowF (w5.setCell ⟨w.heap.size + 1 + 1, 0, none⟩ v) w.heap.size a5 (filesOf O).length ∧ Below w.heap.size w (w5.setCell ⟨w.heap.size + 1 + 1, 0, none⟩ v)) := fun v => ⟨hF.of_block (hset v), (hR.of_block (hset v)).mono (by omega), BB5.setCell (by show w.heap.size ≤ w.heap.size + 1 + 1; omega) _⟩
      have r0 := rr5.1
      clear hB5 hset hF hR rr5
      go_wp2
      refine bodyPost_ret (v := .tuple #[.agg #[.slice a5 (filesOf O).length c5], .bool O.isSome]) (by simp [results, Tryd.results6, go_sem, r0]) rfl ⟨a5, c5, rfl, (HEE.out _).1, (HEE.out _).2.1, (HEE.out _).2.2⟩

theorem specWrite_any (a : Option Addr) (c : Nat) (fs : List Fl) (k : Int) (b : Bt) (a2 : Option Addr) (c2 : Nat) (w : World) (hs : Fls w a fs) (hl : fs.length ≤ maxLen) (hb : Strs w a2 b.recs) (hbl : b.recs.length ≤ maxLen) :
    Calls Tryd.prog 6 #[.agg #[.slice a fs.length c], .int .i64 k, .agg #[.int .i64 b.off, .int .i64 b.ep, .int .i64 b.pr, .int .i64 b.sq, .slice a2 b.recs.length c2]] w fun r w' => ∃ a' c', r = .returned (.tuple #[.agg #[.slice a' (filesOf (wrote fs k b)).length c'], .bool (wrote fs k b).isSome]) ∧ Fls w' a' (filesOf (wrote fs k b)) ∧ RowF w' w.heap.size a' (filesOf (wrote fs k b)).length ∧ Below w.heap.size w w' := by
  cases hin : inF fs k with
  | false => exact specWrite_out a c fs k b a2 c2 w hs hl hb hbl (.inl hin)
  | true =>
    cases hg : b.good with
    | false => exact specWrite_out a c fs k b a2 c2 w hs hl hb hbl (.inr hg)
    | true =>
      obtain ⟨hgD, hk0, hk1⟩ := inF_t hin
      obtain ⟨i, rfl⟩ := Int.eq_ofNat_of_zero_le hk0
      obtain ⟨f, hf⟩ := getFl (fs := fs) (k := i) (by omega)
      by_cases hz : (readL f.bytes.data.toList).2 = f.bytes.size
      · obtain ⟨off, ep, pr, sq, recs⟩ := b
        obtain ⟨o, e, p, q, rfl, rfl, rfl, rfl, -⟩ := good_all hg
        exact specWrite_whole a c fs i f o e p q recs a2 c2 w hs hl hb hbl hin hf hg hz
      · exact specWrite_torn a c fs i f b a2 c2 w hs hl hb hbl hin hf hg hz

end Go.Proofs.YteklkdnkfgfdiaaDoor
