/-
  Groups, the specification's side: spec.l11Fetch, spec.l11Least. Made by mkogs2.py.
-/
import Derived.Test.YtkhbgdnhkaeamaaDoorOgS1J
import Derived.Test.YtkhbgdnhkaeamaaDoorOgI5
namespace Go.Proofs.YtkhbgdnhkaeamaaDoor
open Go.RowKit

set_option maxRecDepth 100000 in
set_option maxHeartbeats 4000000 in
theorem l11Fetch_any (s : Gr) (f B R k n m : Nat) (most : Int) (ql q : Rq) (qs : List Rq) (a0 : Option Addr) (c0 c1 : Nat) (w : World) (h : Gow w B s a0 R qs) (hf0 : s.leader = f) (hql : qs[f]? = some ql) (hq : qs[k]? = some q) (_hn : s.reps.length ≤ 1000000) (_h0 : 0 ≤ most) (_h30 : most ≤ 30) (hl30 : ql.p.log.length ≤ 1000) (hsn : sameN q.p.log ql.p.log = n) (hm : (m : Int) = min (ql.p.log.length : Int) ((n : Int) + most)) :
    Calls Tryd.prog 54 #[grV s a0 c0 (some ⟨R, 0, none⟩) c1, .int .i64 (k : Int), .int .i64 most] w fun r w' => ∃ a' k', r = .returned (grV (upN s k (ql.p.log.take m)) a0 c0 (some ⟨R, 0, none⟩) c1) ∧ Gow w' B (upN s k (ql.p.log.take m)) a0 R (qs.set k (⟨⟨ql.p.log.take m, s.epoch, ((ql.p.log.take m).length : Int)⟩, a', k'⟩ : Rq)) ∧ Below B w w' ∧ (∀ b, b < w.heap.size → b ≠ R → w'.heap[b]? = w.heap[b]?) ∧ ∀ c, InI a' (ql.p.log.take m).length c → w.heap.size ≤ c := by
  have hBz : B ≤ w.heap.size := by have := h.og.hB; have := h.og.size; omega
  have hRz := h.og.size
  have hkn : k < s.reps.length := by rw [← h.len]; exact (List.getElem?_eq_some_iff.1 hq).1
  have hfn : f < s.reps.length := by rw [← h.len]; exact (List.getElem?_eq_some_iff.1 hql).1
  have hki : (k : Int) < (s.reps.length : Int) := by omega
  have hfi : (f : Int) < (s.reps.length : Int) := by omega
  have HF : Hid (s.leader = f) := hf0
  have hml0 := (h.og.lie f ql hql).2
  have hmq0 := (h.og.lie k q hq).2
  have hlc := h.og.cap f ql hql (List.getElem?_eq_some_iff.1 hql).1
  have hnl := (sameN_le q.p.log ql.p.log).2
  rw [hsn] at hnl
  have hml : m ≤ ql.p.log.length := by omega
  have hmc : (m : Int) ≤ (ql.c : Int) := by omega
  have hm0 : (0 : Int) ≤ (m : Int) := by omega
  have HLm : Hid ((ql.p.log.take m).length = m) := by show _ = _; simp; omega
  have hw1 : IntKind.i64.wrap ((ql.p.log.length : Int) - (n : Int)) = (ql.p.log.length : Int) - (n : Int) := by rw [IntKind.wrap_i64]; omega
  obtain ⟨i1, hi1, hy0, hy1, hy2⟩ := infoZ Tryd.infoRw
  clear hf0
  obtain ⟨x0, hx0⟩ : ∃ u, ((w.alloc (.cells #[.int .i64 s.epoch, .int .i64 s.leader, .slice a0 s.steps.length c0, .int .i64 s.high, .slice (some ⟨R, 0, none⟩) s.reps.length c1] 25)).alloc (.cells #[.int .i64 0, .int .i64 0, .slice none 0 0, .int .i64 0, .slice none 0 0] 25)) = u := ⟨_, rfl⟩
  have b0 : Below w.heap.size w x0 := by rw [← hx0]; exact ((Below.refl _ _).alloc (Nat.le_refl _) _).alloc (by simp) _
  have hz0a : x0.heap.size ≤ w.heap.size + 2 := by rw [← hx0]; simp
  have hz0b : w.heap.size + 2 ≤ x0.heap.size := by rw [← hx0]; simp
  have g0 : x0.cell? ⟨w.heap.size, 0, none⟩ = some (.int .i64 s.epoch) := by rw [← hx0]; simp [go_sem]
  have g1 : x0.cell? ⟨w.heap.size, 1, none⟩ = some (.int .i64 s.leader) := by rw [← hx0]; simp [go_sem]
  have g2 : x0.cell? ⟨w.heap.size, 2, none⟩ = some (.slice a0 s.steps.length c0) := by rw [← hx0]; simp [go_sem]
  have g3 : x0.cell? ⟨w.heap.size, 3, none⟩ = some (.int .i64 s.high) := by rw [← hx0]; simp [go_sem]
  have g4 : x0.cell? ⟨w.heap.size, 4, none⟩ = some (.slice (some ⟨R, 0, none⟩) s.reps.length c1) := by rw [← hx0]; simp [go_sem]
  have z0 : x0.cell? ⟨w.heap.size + 1, 0, none⟩ = some (.int .i64 0) := by rw [← hx0]; simp [go_sem]
  have z1 : x0.cell? ⟨w.heap.size + 1, 1, none⟩ = some (.int .i64 0) := by rw [← hx0]; simp [go_sem]
  have z2 : x0.cell? ⟨w.heap.size + 1, 2, none⟩ = some (.slice none 0 0) := by rw [← hx0]; simp [go_sem]
  have z3 : x0.cell? ⟨w.heap.size + 1, 3, none⟩ = some (.int .i64 0) := by rw [← hx0]; simp [go_sem]
  have z4 : x0.cell? ⟨w.heap.size + 1, 4, none⟩ = some (.slice none 0 0) := by rw [← hx0]; simp [go_sem]
  have zf : ∀ o, x0.frozen? ⟨w.heap.size + 1, o, none⟩ = false := fun o => by rw [← hx0]; simp [go_sem]
  have gl : x0.cell? ⟨w.heap.size, 1, none⟩ = some (.int .i64 (f : Int)) := by rw [← HF.out]; exact g1
  have hG0 := h.below b0
  obtain ⟨l0, -, -⟩ := hG0.row.1 f ql hql
  obtain ⟨q0, q1, q2⟩ := hG0.row.1 k q hq
  have hLq := (hG0.og.lie f ql hql).1
  have hLk := (hG0.og.lie k q hq).1
  have HG1 : Hid (x0.cell? ⟨w.heap.size, 1, none⟩ = some (.int .i64 s.leader)) := g1
  clear g1
  obtain ⟨u1, hu1⟩ : ∃ u, x0.alloc (.cells #[.slice q.a q.p.log.length q.c, .int .i64 q.p.epoch, .int .i64 q.p.known] 81) = u := ⟨_, rfl⟩
  have B1 : Below x0.heap.size x0 u1 := by rw [← hu1]; exact alGr _ _
  have z1a : u1.heap.size ≤ x0.heap.size + 1 := by rw [← hu1]; simp
  have z1b : x0.heap.size + 1 ≤ u1.heap.size := by rw [← hu1]; simp
  have m0 : u1.cell? ⟨x0.heap.size, 0, none⟩ = some (.slice q.a q.p.log.length q.c) := by rw [← hu1]; simp [go_sem]
  have m1 : u1.cell? ⟨x0.heap.size, 1, none⟩ = some (.int .i64 q.p.epoch) := by rw [← hu1]; simp [go_sem]
  have m2 : u1.cell? ⟨x0.heap.size, 2, none⟩ = some (.int .i64 q.p.known) := by rw [← hu1]; simp [go_sem]
  have mf : ∀ o, u1.frozen? ⟨x0.heap.size, o, none⟩ = false := fun o => by rw [← hu1]; simp [go_sem]
  by_cases hc : (ql.p.log.length : Int) - (n : Int) < most
  · have hA : (n : Int) + ((ql.p.log.length : Int) - (n : Int)) = (m : Int) := by omega
    have hw2 : IntKind.i64.wrap (m : Int) = (m : Int) := by rw [IntKind.wrap_i64]; omega
    clear hm
    go_enter Tryd.func54, Tryd.ntmps54
    go_wp2_with fail
    try rw [hx0]
    try rw [hu1]
    clear hx0 hu1
    refine (l11Same_c _ _ _ _ _ _ n _ (hLk.below B1) (hLq.below B1) hmq0 hsn).mono ?_
    rintro r w2 ⟨rfl, m', hw⟩
    have B2 : Below u1.heap.size u1 w2 := by rw [hw]; exact below_drewN (Below.refl _ _) m'
    have zw2 : u1.heap.size ≤ w2.heap.size := B2.size
    clear hw
    have B12 := stGr B1 B2
    replace m0 := celB B2 m0
    replace m1 := celB B2 m1
    replace m2 := celB B2 m2
    replace mf := fun o => frzB (o := o) B2 (by omega) (mf o)
    have r0 := celB B12 g0
    have r2 := celB B12 g2
    have r3 := celB B12 g3
    have r4 := celB B12 g4
    have rl := celB B12 gl
    obtain ⟨u3, hu3⟩ : ∃ u, w2.alloc (.cells #[] 98) = u := ⟨_, rfl⟩
    have B3 : Below w2.heap.size w2 u3 := by rw [← hu3]; exact alGr _ _
    have HE3 : u3.heap[w2.heap.size]? = some (.cells #[] 98 (0, 0)) := by rw [← hu3]; exact heap_alloc_new _ _
    have z3a : u3.heap.size ≤ w2.heap.size + 1 := by rw [← hu3]; simp
    have z3b : w2.heap.size + 1 ≤ u3.heap.size := by rw [← hu3]; simp
    have B13 := stGr B12 B3
    replace m0 := celB B3 m0
    replace m1 := celB B3 m1
    replace m2 := celB B3 m2
    replace mf := fun o => frzB (o := o) B3 (by omega) (mf o)
    go_wp2_with (at_builtin; refine wpList_appZ _ rfl _ _ 79 rfl w2.heap.size 98 i1 _ 2 16 Tryd.underlying79 hi1 hy0 hy1 hy2 rfl (by decide) (.slice (some ⟨w2.heap.size, 0, none⟩) 0 0) 0 [] rfl (owns_emptyZ HE3 (Nat.le_refl _)) (.slice ql.a m ql.c) m ((ql.p.log.take m).flatMap rwC) rfl (srcZ_rws _ (hLq.below B13) hml) ?q3 ?q4 ?q5 ?_)
    case q3 => unfold maxLen; omega
    case q4 => omega
    case q5 => omega
    intro v4 w4 hown4 hgrow4 hat4
    try simp only [Nat.zero_add, List.nil_append] at hown4
    obtain ⟨a', k', rfl⟩ := ownsZ_form hown4
    have hk' : m ≤ k' := by obtain ⟨a9, c9, e9, h9, -⟩ := ownsZ_cap hown4; simp only [Value.slice.injEq] at e9; omega
    have hbl : ∀ b, b < u3.heap.size → b ≠ w2.heap.size → w4.heap[b]? = u3.heap[b]? := fun b h1 h2 => hgrow4.block b h1 (fun e => h2 (by simpa [Value.ownBlock] using e))
    have zw4 := hgrow4.size
    have B4 : Below x0.heap.size x0 w4 := B13.grown hgrow4 (by omega) (fun b hb => by simp [Value.ownBlock] at hb; omega)
    replace m0 := (World.cell?_of_block (a := ⟨x0.heap.size, 0, none⟩) (hbl x0.heap.size (by omega) (by omega))).trans m0
    replace m1 := (World.cell?_of_block (a := ⟨x0.heap.size, 1, none⟩) (hbl x0.heap.size (by omega) (by omega))).trans m1
    replace m2 := (World.cell?_of_block (a := ⟨x0.heap.size, 2, none⟩) (hbl x0.heap.size (by omega) (by omega))).trans m2
    replace mf : ∀ o, w4.frozen? ⟨x0.heap.size, o, none⟩ = false := fun o => (World.frozen?_of_block (a := ⟨x0.heap.size, o, none⟩) (hbl x0.heap.size (by omega) (by omega))).trans (mf o)
    have HR4 : Hid (RowRw w4 w2.heap.size a' m) := rowRw_of_owns hown4
    have HL4 : Hid (Rws w4 a' (ql.p.log.take m)) := rws_of_owns (B := w2.heap.size) (c := k') (by rw [HLm.out]; exact hown4)
    replace r0 := celB B4 g0
    replace r2 := celB B4 g2
    replace r3 := celB B4 g3
    replace r4 := celB B4 g4
    have r1 := celB B4 HG1.out
    clear rl
    obtain ⟨u5, hu5⟩ : ∃ u, (((w4.setCell ⟨x0.heap.size, 0, none⟩ (.slice a' m k')).setCell ⟨x0.heap.size, 1, none⟩ (.int .i64 s.epoch)).setCell ⟨x0.heap.size, 2, none⟩ (.int .i64 (m : Int))) = u := ⟨_, rfl⟩
    have B5 : Below x0.heap.size x0 u5 := by rw [← hu5]; exact ((B4.setCell (Nat.le_refl _) _).setCell (Nat.le_refl _) _).setCell (Nat.le_refl _) _
    have z5a : u5.heap.size ≤ w4.heap.size := by rw [← hu5]; simp
    have z5b : w4.heap.size ≤ u5.heap.size := by rw [← hu5]; simp
    have hG5 := hG0.below B5
    obtain ⟨cR0, cR1, cR2⟩ := hG5.row.1 k q hq
    have fR := hG5.row.2
    have hs5 : ∀ b, InI a' m b → u5.heap[b]? = w4.heap[b]? := fun b hi => by have := (HR4.out.lt hi).1; rw [← hu5, Below.heap_setCell _ ⟨x0.heap.size, _, none⟩ _ b (by simp; omega), Below.heap_setCell _ ⟨x0.heap.size, _, none⟩ _ b (by simp; omega), Below.heap_setCell _ ⟨x0.heap.size, _, none⟩ _ b (by simp; omega)]
    have HR5 : Hid (RowRw u5 w2.heap.size a' m) := HR4.out.of_block hs5
    have HL5 : Hid (Rws u5 a' (ql.p.log.take m)) := HL4.out.of_block (by rw [HLm.out]; exact hs5)
    have n0 : u5.cell? ⟨x0.heap.size, 0, none⟩ = some (.slice a' m k') := by rw [← hu5]; simp [go_sem, m0]
    have n1 : u5.cell? ⟨x0.heap.size, 1, none⟩ = some (.int .i64 s.epoch) := by rw [← hu5]; simp [go_sem, m1]
    have n2 : u5.cell? ⟨x0.heap.size, 2, none⟩ = some (.int .i64 (m : Int)) := by rw [← hu5]; simp [go_sem, m2]
    have t0 := celB B5 g0
    have t2 := celB B5 g2
    have t3 := celB B5 g3
    have t4 := celB B5 g4
    have t1 := celB B5 HG1.out
    obtain ⟨u6, hu6⟩ : ∃ u, (((u5.setCell ⟨R, k * 3, none⟩ (.slice a' m k')).setCell ⟨R, k * 3 + 1, none⟩ (.int .i64 s.epoch)).setCell ⟨R, k * 3 + 2, none⟩ (.int .i64 (m : Int))) = u := ⟨_, rfl⟩
    have BB : Below B w u6 := by rw [← hu6]; exact Gow.set3b ((b0.trans (B5.mono (by omega))).mono hBz) h.og.hB
    have GG : Gow u6 B (upN s k (ql.p.log.take m)) a0 R (qs.set k (⟨⟨ql.p.log.take m, s.epoch, ((ql.p.log.take m).length : Int)⟩, a', k'⟩ : Rq)) := by
      rw [← hu6]
      unfold upN
      have := hG5.fresh hG0 (j := k) (by rw [h.len]; exact hkn) (⟨⟨ql.p.log.take m, s.epoch, ((ql.p.log.take m).length : Int)⟩, a', k'⟩ : Rq) HL5.out (by show (ql.p.log.take m).length ≤ maxLen; rw [HLm.out]; unfold maxLen; omega) (by show (ql.p.log.take m).length ≤ k'; rw [HLm.out]; exact hk') (by show RowRw _ _ _ (ql.p.log.take m).length; rw [HLm.out]; exact HR5.out.mono (by omega))
      simpa only [HLm.out] using this
    have OO : ∀ b, b < w.heap.size → b ≠ R → u6.heap[b]? = w.heap[b]? := fun b hb hne => by rw [← hu6, Below.heap_setCell _ ⟨R, _, none⟩ _ b (fun e => hne e), Below.heap_setCell _ ⟨R, _, none⟩ _ b (fun e => hne e), Below.heap_setCell _ ⟨R, _, none⟩ _ b (fun e => hne e), B5.block b (by omega), b0.block b hb]
    have y0 : u6.cell? ⟨w.heap.size, 0, none⟩ = some (.int .i64 s.epoch) := by rw [← hu6, World.cell?_setCell_other _ _ _ _ (by first | (simp; done) | (simp; omega)), World.cell?_setCell_other _ _ _ _ (by first | (simp; done) | (simp; omega)), World.cell?_setCell_other _ _ _ _ (by first | (simp; done) | (simp; omega))]; exact t0
    have y1 : u6.cell? ⟨w.heap.size, 1, none⟩ = some (.int .i64 s.leader) := by rw [← hu6, World.cell?_setCell_other _ _ _ _ (by first | (simp; done) | (simp; omega)), World.cell?_setCell_other _ _ _ _ (by first | (simp; done) | (simp; omega)), World.cell?_setCell_other _ _ _ _ (by first | (simp; done) | (simp; omega))]; exact t1
    have y2 : u6.cell? ⟨w.heap.size, 2, none⟩ = some (.slice a0 s.steps.length c0) := by rw [← hu6, World.cell?_setCell_other _ _ _ _ (by first | (simp; done) | (simp; omega)), World.cell?_setCell_other _ _ _ _ (by first | (simp; done) | (simp; omega)), World.cell?_setCell_other _ _ _ _ (by first | (simp; done) | (simp; omega))]; exact t2
    have y3 : u6.cell? ⟨w.heap.size, 3, none⟩ = some (.int .i64 s.high) := by rw [← hu6, World.cell?_setCell_other _ _ _ _ (by first | (simp; done) | (simp; omega)), World.cell?_setCell_other _ _ _ _ (by first | (simp; done) | (simp; omega)), World.cell?_setCell_other _ _ _ _ (by first | (simp; done) | (simp; omega))]; exact t3
    have y4 : u6.cell? ⟨w.heap.size, 4, none⟩ = some (.slice (some ⟨R, 0, none⟩) s.reps.length c1) := by rw [← hu6, World.cell?_setCell_other _ _ _ _ (by first | (simp; done) | (simp; omega)), World.cell?_setCell_other _ _ _ _ (by first | (simp; done) | (simp; omega)), World.cell?_setCell_other _ _ _ _ (by first | (simp; done) | (simp; omega))]; exact t4
    have v0 : u6.cell? ⟨w.heap.size + 1, 0, none⟩ = some (.int .i64 0) := by rw [← hu6, World.cell?_setCell_other _ _ _ _ (by first | (simp; done) | (simp; omega)), World.cell?_setCell_other _ _ _ _ (by first | (simp; done) | (simp; omega)), World.cell?_setCell_other _ _ _ _ (by first | (simp; done) | (simp; omega))]; exact celB B5 z0
    have v1 : u6.cell? ⟨w.heap.size + 1, 1, none⟩ = some (.int .i64 0) := by rw [← hu6, World.cell?_setCell_other _ _ _ _ (by first | (simp; done) | (simp; omega)), World.cell?_setCell_other _ _ _ _ (by first | (simp; done) | (simp; omega)), World.cell?_setCell_other _ _ _ _ (by first | (simp; done) | (simp; omega))]; exact celB B5 z1
    have v2 : u6.cell? ⟨w.heap.size + 1, 2, none⟩ = some (.slice none 0 0) := by rw [← hu6, World.cell?_setCell_other _ _ _ _ (by first | (simp; done) | (simp; omega)), World.cell?_setCell_other _ _ _ _ (by first | (simp; done) | (simp; omega)), World.cell?_setCell_other _ _ _ _ (by first | (simp; done) | (simp; omega))]; exact celB B5 z2
    have v3 : u6.cell? ⟨w.heap.size + 1, 3, none⟩ = some (.int .i64 0) := by rw [← hu6, World.cell?_setCell_other _ _ _ _ (by first | (simp; done) | (simp; omega)), World.cell?_setCell_other _ _ _ _ (by first | (simp; done) | (simp; omega)), World.cell?_setCell_other _ _ _ _ (by first | (simp; done) | (simp; omega))]; exact celB B5 z3
    have v4 : u6.cell? ⟨w.heap.size + 1, 4, none⟩ = some (.slice none 0 0) := by rw [← hu6, World.cell?_setCell_other _ _ _ _ (by first | (simp; done) | (simp; omega)), World.cell?_setCell_other _ _ _ _ (by first | (simp; done) | (simp; omega)), World.cell?_setCell_other _ _ _ _ (by first | (simp; done) | (simp; omega))]; exact celB B5 z4
    have vf : ∀ o, u6.frozen? ⟨w.heap.size + 1, o, none⟩ = false := fun o => by rw [← hu6]; simp [go_sem, frzB (o := o) B5 (by omega) (zf o)]
    have hwR := h.ne_set (b := w.heap.size + 1) (by omega) k (⟨⟨ql.p.log.take m, s.epoch, ((ql.p.log.take m).length : Int)⟩, a', k'⟩ : Rq) (fun c hi => by have hi' : InI a' (ql.p.log.take m).length c := hi; rw [HLm.out] at hi'; have := (HR5.out.lt hi').1; omega)
    have hBw : B ≤ w.heap.size + 1 := by omega
    have HFr : Hid (∀ c, InI a' (ql.p.log.take m).length c → w.heap.size ≤ c) := fun c hi => by rw [HLm.out] at hi; have := (HR5.out.lt hi).1; omega
    clear hown4 hgrow4 hat4 hbl hs5 hu3
    go_wp2
    refine bodyPost_ret (v := grV s a0 c0 (some ⟨R, 0, none⟩) c1) (by simp [results, Tryd.results54, go_sem, v0, v1, v2, v3, v4]) rfl ⟨a', k', ?_, ?_, ?_⟩
    · rw [show grV (upN s k (ql.p.log.take m)) a0 c0 (some ⟨R, 0, none⟩) c1 = grV s a0 c0 (some ⟨R, 0, none⟩) c1 by simp [upN, putR]]
    · exact (((((GG.setO' hwR _ _).setO' hwR _ _).setO' hwR _ _).setO' hwR _ _).setO' hwR _ _)
    · exact ⟨((((BB.setCell hBw _).setCell hBw _).setCell hBw _).setCell hBw _).setCell hBw _, fun b hb hne => by rw [Below.heap_setCell _ ⟨w.heap.size + 1, _, none⟩ _ b (by simp; omega), Below.heap_setCell _ ⟨w.heap.size + 1, _, none⟩ _ b (by simp; omega), Below.heap_setCell _ ⟨w.heap.size + 1, _, none⟩ _ b (by simp; omega), Below.heap_setCell _ ⟨w.heap.size + 1, _, none⟩ _ b (by simp; omega), Below.heap_setCell _ ⟨w.heap.size + 1, _, none⟩ _ b (by simp; omega)]; exact OO b hb hne, HFr.out⟩
  · have hA : (n : Int) + most = (m : Int) := by omega
    have hc' : most ≤ (ql.p.log.length : Int) - (n : Int) := by omega
    have hw2 : IntKind.i64.wrap (m : Int) = (m : Int) := by rw [IntKind.wrap_i64]; omega
    clear hm hc
    go_enter Tryd.func54, Tryd.ntmps54
    go_wp2_with fail
    try rw [hx0]
    try rw [hu1]
    clear hx0 hu1
    refine (l11Same_c _ _ _ _ _ _ n _ (hLk.below B1) (hLq.below B1) hmq0 hsn).mono ?_
    rintro r w2 ⟨rfl, m', hw⟩
    have B2 : Below u1.heap.size u1 w2 := by rw [hw]; exact below_drewN (Below.refl _ _) m'
    have zw2 : u1.heap.size ≤ w2.heap.size := B2.size
    clear hw
    have B12 := stGr B1 B2
    replace m0 := celB B2 m0
    replace m1 := celB B2 m1
    replace m2 := celB B2 m2
    replace mf := fun o => frzB (o := o) B2 (by omega) (mf o)
    have r0 := celB B12 g0
    have r2 := celB B12 g2
    have r3 := celB B12 g3
    have r4 := celB B12 g4
    have rl := celB B12 gl
    obtain ⟨u3, hu3⟩ : ∃ u, w2.alloc (.cells #[] 98) = u := ⟨_, rfl⟩
    have B3 : Below w2.heap.size w2 u3 := by rw [← hu3]; exact alGr _ _
    have HE3 : u3.heap[w2.heap.size]? = some (.cells #[] 98 (0, 0)) := by rw [← hu3]; exact heap_alloc_new _ _
    have z3a : u3.heap.size ≤ w2.heap.size + 1 := by rw [← hu3]; simp
    have z3b : w2.heap.size + 1 ≤ u3.heap.size := by rw [← hu3]; simp
    have B13 := stGr B12 B3
    replace m0 := celB B3 m0
    replace m1 := celB B3 m1
    replace m2 := celB B3 m2
    replace mf := fun o => frzB (o := o) B3 (by omega) (mf o)
    go_wp2_with (at_builtin; refine wpList_appZ _ rfl _ _ 79 rfl w2.heap.size 98 i1 _ 2 16 Tryd.underlying79 hi1 hy0 hy1 hy2 rfl (by decide) (.slice (some ⟨w2.heap.size, 0, none⟩) 0 0) 0 [] rfl (owns_emptyZ HE3 (Nat.le_refl _)) (.slice ql.a m ql.c) m ((ql.p.log.take m).flatMap rwC) rfl (srcZ_rws _ (hLq.below B13) hml) ?q3 ?q4 ?q5 ?_)
    case q3 => unfold maxLen; omega
    case q4 => omega
    case q5 => omega
    intro v4 w4 hown4 hgrow4 hat4
    try simp only [Nat.zero_add, List.nil_append] at hown4
    obtain ⟨a', k', rfl⟩ := ownsZ_form hown4
    have hk' : m ≤ k' := by obtain ⟨a9, c9, e9, h9, -⟩ := ownsZ_cap hown4; simp only [Value.slice.injEq] at e9; omega
    have hbl : ∀ b, b < u3.heap.size → b ≠ w2.heap.size → w4.heap[b]? = u3.heap[b]? := fun b h1 h2 => hgrow4.block b h1 (fun e => h2 (by simpa [Value.ownBlock] using e))
    have zw4 := hgrow4.size
    have B4 : Below x0.heap.size x0 w4 := B13.grown hgrow4 (by omega) (fun b hb => by simp [Value.ownBlock] at hb; omega)
    replace m0 := (World.cell?_of_block (a := ⟨x0.heap.size, 0, none⟩) (hbl x0.heap.size (by omega) (by omega))).trans m0
    replace m1 := (World.cell?_of_block (a := ⟨x0.heap.size, 1, none⟩) (hbl x0.heap.size (by omega) (by omega))).trans m1
    replace m2 := (World.cell?_of_block (a := ⟨x0.heap.size, 2, none⟩) (hbl x0.heap.size (by omega) (by omega))).trans m2
    replace mf : ∀ o, w4.frozen? ⟨x0.heap.size, o, none⟩ = false := fun o => (World.frozen?_of_block (a := ⟨x0.heap.size, o, none⟩) (hbl x0.heap.size (by omega) (by omega))).trans (mf o)
    have HR4 : Hid (RowRw w4 w2.heap.size a' m) := rowRw_of_owns hown4
    have HL4 : Hid (Rws w4 a' (ql.p.log.take m)) := rws_of_owns (B := w2.heap.size) (c := k') (by rw [HLm.out]; exact hown4)
    replace r0 := celB B4 g0
    replace r2 := celB B4 g2
    replace r3 := celB B4 g3
    replace r4 := celB B4 g4
    have r1 := celB B4 HG1.out
    clear rl
    obtain ⟨u5, hu5⟩ : ∃ u, (((w4.setCell ⟨x0.heap.size, 0, none⟩ (.slice a' m k')).setCell ⟨x0.heap.size, 1, none⟩ (.int .i64 s.epoch)).setCell ⟨x0.heap.size, 2, none⟩ (.int .i64 (m : Int))) = u := ⟨_, rfl⟩
    have B5 : Below x0.heap.size x0 u5 := by rw [← hu5]; exact ((B4.setCell (Nat.le_refl _) _).setCell (Nat.le_refl _) _).setCell (Nat.le_refl _) _
    have z5a : u5.heap.size ≤ w4.heap.size := by rw [← hu5]; simp
    have z5b : w4.heap.size ≤ u5.heap.size := by rw [← hu5]; simp
    have hG5 := hG0.below B5
    obtain ⟨cR0, cR1, cR2⟩ := hG5.row.1 k q hq
    have fR := hG5.row.2
    have hs5 : ∀ b, InI a' m b → u5.heap[b]? = w4.heap[b]? := fun b hi => by have := (HR4.out.lt hi).1; rw [← hu5, Below.heap_setCell _ ⟨x0.heap.size, _, none⟩ _ b (by simp; omega), Below.heap_setCell _ ⟨x0.heap.size, _, none⟩ _ b (by simp; omega), Below.heap_setCell _ ⟨x0.heap.size, _, none⟩ _ b (by simp; omega)]
    have HR5 : Hid (RowRw u5 w2.heap.size a' m) := HR4.out.of_block hs5
    have HL5 : Hid (Rws u5 a' (ql.p.log.take m)) := HL4.out.of_block (by rw [HLm.out]; exact hs5)
    have n0 : u5.cell? ⟨x0.heap.size, 0, none⟩ = some (.slice a' m k') := by rw [← hu5]; simp [go_sem, m0]
    have n1 : u5.cell? ⟨x0.heap.size, 1, none⟩ = some (.int .i64 s.epoch) := by rw [← hu5]; simp [go_sem, m1]
    have n2 : u5.cell? ⟨x0.heap.size, 2, none⟩ = some (.int .i64 (m : Int)) := by rw [← hu5]; simp [go_sem, m2]
    have t0 := celB B5 g0
    have t2 := celB B5 g2
    have t3 := celB B5 g3
    have t4 := celB B5 g4
    have t1 := celB B5 HG1.out
    obtain ⟨u6, hu6⟩ : ∃ u, (((u5.setCell ⟨R, k * 3, none⟩ (.slice a' m k')).setCell ⟨R, k * 3 + 1, none⟩ (.int .i64 s.epoch)).setCell ⟨R, k * 3 + 2, none⟩ (.int .i64 (m : Int))) = u := ⟨_, rfl⟩
    have BB : Below B w u6 := by rw [← hu6]; exact Gow.set3b ((b0.trans (B5.mono (by omega))).mono hBz) h.og.hB
    have GG : Gow u6 B (upN s k (ql.p.log.take m)) a0 R (qs.set k (⟨⟨ql.p.log.take m, s.epoch, ((ql.p.log.take m).length : Int)⟩, a', k'⟩ : Rq)) := by
      rw [← hu6]
      unfold upN
      have := hG5.fresh hG0 (j := k) (by rw [h.len]; exact hkn) (⟨⟨ql.p.log.take m, s.epoch, ((ql.p.log.take m).length : Int)⟩, a', k'⟩ : Rq) HL5.out (by show (ql.p.log.take m).length ≤ maxLen; rw [HLm.out]; unfold maxLen; omega) (by show (ql.p.log.take m).length ≤ k'; rw [HLm.out]; exact hk') (by show RowRw _ _ _ (ql.p.log.take m).length; rw [HLm.out]; exact HR5.out.mono (by omega))
      simpa only [HLm.out] using this
    have OO : ∀ b, b < w.heap.size → b ≠ R → u6.heap[b]? = w.heap[b]? := fun b hb hne => by rw [← hu6, Below.heap_setCell _ ⟨R, _, none⟩ _ b (fun e => hne e), Below.heap_setCell _ ⟨R, _, none⟩ _ b (fun e => hne e), Below.heap_setCell _ ⟨R, _, none⟩ _ b (fun e => hne e), B5.block b (by omega), b0.block b hb]
    have y0 : u6.cell? ⟨w.heap.size, 0, none⟩ = some (.int .i64 s.epoch) := by rw [← hu6, World.cell?_setCell_other _ _ _ _ (by first | (simp; done) | (simp; omega)), World.cell?_setCell_other _ _ _ _ (by first | (simp; done) | (simp; omega)), World.cell?_setCell_other _ _ _ _ (by first | (simp; done) | (simp; omega))]; exact t0
    have y1 : u6.cell? ⟨w.heap.size, 1, none⟩ = some (.int .i64 s.leader) := by rw [← hu6, World.cell?_setCell_other _ _ _ _ (by first | (simp; done) | (simp; omega)), World.cell?_setCell_other _ _ _ _ (by first | (simp; done) | (simp; omega)), World.cell?_setCell_other _ _ _ _ (by first | (simp; done) | (simp; omega))]; exact t1
    have y2 : u6.cell? ⟨w.heap.size, 2, none⟩ = some (.slice a0 s.steps.length c0) := by rw [← hu6, World.cell?_setCell_other _ _ _ _ (by first | (simp; done) | (simp; omega)), World.cell?_setCell_other _ _ _ _ (by first | (simp; done) | (simp; omega)), World.cell?_setCell_other _ _ _ _ (by first | (simp; done) | (simp; omega))]; exact t2
    have y3 : u6.cell? ⟨w.heap.size, 3, none⟩ = some (.int .i64 s.high) := by rw [← hu6, World.cell?_setCell_other _ _ _ _ (by first | (simp; done) | (simp; omega)), World.cell?_setCell_other _ _ _ _ (by first | (simp; done) | (simp; omega)), World.cell?_setCell_other _ _ _ _ (by first | (simp; done) | (simp; omega))]; exact t3
    have y4 : u6.cell? ⟨w.heap.size, 4, none⟩ = some (.slice (some ⟨R, 0, none⟩) s.reps.length c1) := by rw [← hu6, World.cell?_setCell_other _ _ _ _ (by first | (simp; done) | (simp; omega)), World.cell?_setCell_other _ _ _ _ (by first | (simp; done) | (simp; omega)), World.cell?_setCell_other _ _ _ _ (by first | (simp; done) | (simp; omega))]; exact t4
    have v0 : u6.cell? ⟨w.heap.size + 1, 0, none⟩ = some (.int .i64 0) := by rw [← hu6, World.cell?_setCell_other _ _ _ _ (by first | (simp; done) | (simp; omega)), World.cell?_setCell_other _ _ _ _ (by first | (simp; done) | (simp; omega)), World.cell?_setCell_other _ _ _ _ (by first | (simp; done) | (simp; omega))]; exact celB B5 z0
    have v1 : u6.cell? ⟨w.heap.size + 1, 1, none⟩ = some (.int .i64 0) := by rw [← hu6, World.cell?_setCell_other _ _ _ _ (by first | (simp; done) | (simp; omega)), World.cell?_setCell_other _ _ _ _ (by first | (simp; done) | (simp; omega)), World.cell?_setCell_other _ _ _ _ (by first | (simp; done) | (simp; omega))]; exact celB B5 z1
    have v2 : u6.cell? ⟨w.heap.size + 1, 2, none⟩ = some (.slice none 0 0) := by rw [← hu6, World.cell?_setCell_other _ _ _ _ (by first | (simp; done) | (simp; omega)), World.cell?_setCell_other _ _ _ _ (by first | (simp; done) | (simp; omega)), World.cell?_setCell_other _ _ _ _ (by first | (simp; done) | (simp; omega))]; exact celB B5 z2
    have v3 : u6.cell? ⟨w.heap.size + 1, 3, none⟩ = some (.int .i64 0) := by rw [← hu6, World.cell?_setCell_other _ _ _ _ (by first | (simp; done) | (simp; omega)), World.cell?_setCell_other _ _ _ _ (by first | (simp; done) | (simp; omega)), World.cell?_setCell_other _ _ _ _ (by first | (simp; done) | (simp; omega))]; exact celB B5 z3
    have v4 : u6.cell? ⟨w.heap.size + 1, 4, none⟩ = some (.slice none 0 0) := by rw [← hu6, World.cell?_setCell_other _ _ _ _ (by first | (simp; done) | (simp; omega)), World.cell?_setCell_other _ _ _ _ (by first | (simp; done) | (simp; omega)), World.cell?_setCell_other _ _ _ _ (by first | (simp; done) | (simp; omega))]; exact celB B5 z4
    have vf : ∀ o, u6.frozen? ⟨w.heap.size + 1, o, none⟩ = false := fun o => by rw [← hu6]; simp [go_sem, frzB (o := o) B5 (by omega) (zf o)]
    have hwR := h.ne_set (b := w.heap.size + 1) (by omega) k (⟨⟨ql.p.log.take m, s.epoch, ((ql.p.log.take m).length : Int)⟩, a', k'⟩ : Rq) (fun c hi => by have hi' : InI a' (ql.p.log.take m).length c := hi; rw [HLm.out] at hi'; have := (HR5.out.lt hi').1; omega)
    have hBw : B ≤ w.heap.size + 1 := by omega
    have HFr : Hid (∀ c, InI a' (ql.p.log.take m).length c → w.heap.size ≤ c) := fun c hi => by rw [HLm.out] at hi; have := (HR5.out.lt hi).1; omega
    clear hown4 hgrow4 hat4 hbl hs5 hu3
    go_wp2
    refine bodyPost_ret (v := grV s a0 c0 (some ⟨R, 0, none⟩) c1) (by simp [results, Tryd.results54, go_sem, v0, v1, v2, v3, v4]) rfl ⟨a', k', ?_, ?_, ?_⟩
    · rw [show grV (upN s k (ql.p.log.take m)) a0 c0 (some ⟨R, 0, none⟩) c1 = grV s a0 c0 (some ⟨R, 0, none⟩) c1 by simp [upN, putR]]
    · exact (((((GG.setO' hwR _ _).setO' hwR _ _).setO' hwR _ _).setO' hwR _ _).setO' hwR _ _)
    · exact ⟨((((BB.setCell hBw _).setCell hBw _).setCell hBw _).setCell hBw _).setCell hBw _, fun b hb hne => by rw [Below.heap_setCell _ ⟨w.heap.size + 1, _, none⟩ _ b (by simp; omega), Below.heap_setCell _ ⟨w.heap.size + 1, _, none⟩ _ b (by simp; omega), Below.heap_setCell _ ⟨w.heap.size + 1, _, none⟩ _ b (by simp; omega), Below.heap_setCell _ ⟨w.heap.size + 1, _, none⟩ _ b (by simp; omega), Below.heap_setCell _ ⟨w.heap.size + 1, _, none⟩ _ b (by simp; omega)]; exact OO b hb hne, HFr.out⟩

/-- The least known length, -1 where it is not known. -/
def lstS (s : Gr) : Int := if nowTo s s.steps.length then lsTo s s.steps.length else -1
theorem lstS_bad {s : Gr} {k : Nat} (hk : k < s.steps.length) (h : ¬ (rpA s.reps (zA s.steps k).toNat).epoch = s.epoch) : lstS s = -1 := by
  have : ¬ nowTo s s.steps.length := fun g => h (g k hk)
  simp [lstS, this]
theorem lstS_done {s : Gr} (h : nowTo s s.steps.length) : lstS s = lsTo s s.steps.length := by simp [lstS, h]

set_option maxRecDepth 100000 in
set_option maxHeartbeats 4000000 in
theorem l11Least_any (s : Gr) (a0 a1 : Option Addr) (c0 c1 : Nat) (w : World) (hs : GrR w s a0 a1) (hl : GrL s) (_hn : s.reps.length ≤ 1000000) (hr : ∀ z ∈ s.steps, 0 ≤ z ∧ z < s.reps.length) :
    Calls Tryd.prog 56 #[grV s a0 c0 a1 c1] w fun r w' => r = .returned (.int .i64 (lstS s)) ∧ Below w.heap.size w w' := by
  have hls := hl.steps
  unfold maxLen at hls
  obtain ⟨x0, hx0⟩ : ∃ u, (w.alloc (.cells #[.int .i64 s.epoch, .int .i64 s.leader, .slice a0 s.steps.length c0, .int .i64 s.high, .slice a1 s.reps.length c1] 25)) = u := ⟨_, rfl⟩
  have b0 : Below w.heap.size w x0 := by rw [← hx0]; exact alGr _ _
  have g0 : x0.cell? ⟨w.heap.size, 0, none⟩ = some (.int .i64 s.epoch) := by rw [← hx0]; simp [go_sem]
  have g1 : x0.cell? ⟨w.heap.size, 1, none⟩ = some (.int .i64 s.leader) := by rw [← hx0]; simp [go_sem]
  have g2 : x0.cell? ⟨w.heap.size, 2, none⟩ = some (.slice a0 s.steps.length c0) := by rw [← hx0]; simp [go_sem]
  have g3 : x0.cell? ⟨w.heap.size, 3, none⟩ = some (.int .i64 s.high) := by rw [← hx0]; simp [go_sem]
  have g4 : x0.cell? ⟨w.heap.size, 4, none⟩ = some (.slice a1 s.reps.length c1) := by rw [← hx0]; simp [go_sem]
  go_enter Tryd.func56, Tryd.ntmps56
  go_wp2
  try rw [hx0]
  clear hx0
  go_loopw [3, 10] (fun l i wr => ∃ k : Nat, k ≤ s.steps.length ∧ i = .int .i64 k ∧ l = .int .i64 (lsTo s k) ∧ Hid (nowTo s k) ∧ Below x0.heap.size x0 wr) (fun _ i _ => s.steps.length - (intOf i).toNat)
  case atStart => exact ⟨0, Nat.zero_le _, rfl, rfl, (fun i hi => absurd hi (Nat.not_lt_zero _)), Below.refl _ _⟩
  case round =>
    obtain ⟨k, hk, rfl, rfl, HO, hB⟩ := hrel
    have bW := stGr b0 hB
    have q0 := celB hB g0
    have q1 := celB hB g1
    have q2 := celB hB g2
    have q3 := celB hB g3
    have q4 := celB hB g4
    by_cases hlt : k < s.steps.length
    · have hkz := zA_get hlt
      obtain ⟨b, off, e5, c5⟩ := ((hs.below b0).steps.below hB) k _ hkz
      subst e5
      obtain ⟨z, hz⟩ : ∃ z, zA s.steps k = z := ⟨_, rfl⟩
      rw [hz] at c5 hkz
      have hzr := hr z (List.mem_of_getElem? hkz)
      obtain ⟨m, rfl⟩ : ∃ m : Nat, z = m := ⟨z.toNat, by omega⟩
      have hmn : m < s.reps.length := by omega
      have hmi : (m : Int) < (s.reps.length : Int) := by omega
      obtain ⟨p, hp⟩ : ∃ p, rpA s.reps m = p := ⟨_, rfl⟩
      obtain ⟨K, o, ea, r0, k0, f0, f1, f2, -, -⟩ := ((hs.below b0).reps.below hB) m _ (rpA_get hmn)
      subst ea
      rw [hp] at f0 f1 f2
      have HZ : Hid (rpA s.reps (zA s.steps k).toNat = p) := by show _ = _; rw [hz, Int.toNat_natCast, hp]
      obtain ⟨t, ht⟩ : ∃ t, lsTo s k = t := ⟨_, rfl⟩
      have HT : Hid (lsTo s k = t) := ht
      rw [ht]
      have hki : (k : Int) < (s.steps.length : Int) := by omega
      have BA : Below x0.heap.size x0 (wr.alloc (.cells #[.slice r0 p.log.length k0, .int .i64 p.epoch, .int .i64 p.known] 81)) := stGr hB (alGr _ _)
      have q0' : ∀ o, (wr.alloc o).cell? ⟨w.heap.size, 0, none⟩ = some (.int .i64 s.epoch) := fun o => celB (alGr _ o) q0
      clear hz hkz hzr hp hr ht
      cases g : (p.epoch != s.epoch) with
      | true =>
        have HE : Hid (lstS s = -1) := lstS_bad hlt (by rw [HZ.out]; simpa using g)
        go_wp2
        go_ret
        exact ⟨by rw [HE.out]; rfl, stGr b0 BA⟩
      | false =>
        have HN : Hid (nowTo s (k + 1)) := nowTo_succ HO.out (by rw [HZ.out]; simpa using g)
        have HS : Hid (lsTo s (k + 1) = if p.known < t then p.known else t) := by show _ = _; rw [lsTo, HZ.out, HT.out]
        by_cases hmin : p.known < t
        · have HS2 : Hid (lsTo s (k + 1) = p.known) := by show _ = _; rw [HS.out, if_pos hmin]
          go_wp2
          go_roundw
          case rel => exact ⟨k + 1, by omega, by go_num, by rw [HS2.out], HN.out, BA⟩
          case measure => simp [intOf]; omega
        · have HS2 : Hid (lsTo s (k + 1) = t) := by show _ = _; rw [HS.out, if_neg hmin]
          go_wp2
          go_roundw
          case rel => exact ⟨k + 1, by omega, by go_num, by rw [HS2.out], HN.out, BA⟩
          case measure => simp [intOf]; omega
    · obtain rfl : k = s.steps.length := by omega
      have HE : Hid (lstS s = lsTo s s.steps.length) := lstS_done HO.out
      go_wp2
      go_ret
      exact ⟨by rw [HE.out]; rfl, bW⟩

end Go.Proofs.YtkhbgdnhkaeamaaDoor
