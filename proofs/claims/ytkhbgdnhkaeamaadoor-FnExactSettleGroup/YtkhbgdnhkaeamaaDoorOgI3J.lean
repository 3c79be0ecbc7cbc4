/-
  Groups that the program owns: impl.withLeaderUpToNow, fetched, withFetch. Made by mkogi2.py.
  Groups that the program owns: impl.withFetch. Made by mkogi3.py.
-/
import Derived.Test.YtkhbgdnhkaeamaaDoorOg2J
import Derived.Test.YtkhbgdnhkaeamaaDoorOgSJ
import Derived.Test.YtkhbgdnhkaeamaaDoorGrI2rJ
namespace Go.Proofs.YtkhbgdnhkaeamaaDoor
open Go.RowKit

/-- The replica as its row's cells tell it. -/
theorem replicaOf_o (s : Gr) (z : Int) (f k B R : Nat) (ql q : Rq) (qs : List Rq) (a0 : Option Addr) (c0 c1 : Nat) (w : World) (h : Gow w B s a0 R qs) (hf : s.leader = f) (hql : qs[f]? = some ql) (hq : qs[k]? = some q) (hz : z = k) (_hn : s.reps.length ≤ 1000000) :
    Calls Tryd.prog 70 #[grV s a0 c0 (some ⟨R, 0, none⟩) c1, .int .i64 z] w fun e w' => e = .returned (riV s.epoch ql.p.log ql.a ql.c q.p q.a q.c) ∧ Below w.heap.size w w' := by
  subst hz
  have hk : k < s.reps.length := by rw [← h.len]; exact (List.getElem?_eq_some_iff.1 hq).1
  have hfn : f < s.reps.length := by rw [← h.len]; exact (List.getElem?_eq_some_iff.1 hql).1
  obtain ⟨d0, -, -⟩ := h.row.1 f ql hql
  obtain ⟨e0, e1, e2⟩ := h.row.1 k q hq
  have hfi : (f : Int) < (s.reps.length : Int) := by omega
  have hki : (k : Int) < (s.reps.length : Int) := by omega
  unfold grV
  rw [hf]
  have HB : ∀ x y, Below w.heap.size w ((w.alloc x).alloc y) := fun _ _ => ((Below.refl _ _).alloc (Nat.le_refl _) _).alloc (by simp) _
  have D0 : ∀ x y, ((w.alloc x).alloc y).cell? ⟨R, f * 3, none⟩ = some (.slice ql.a ql.p.log.length ql.c) := fun x y => celB (HB x y) d0
  have E0 : ∀ x y, ((w.alloc x).alloc y).cell? ⟨R, k * 3, none⟩ = some (.slice q.a q.p.log.length q.c) := fun x y => celB (HB x y) e0
  have E1 : ∀ x y, ((w.alloc x).alloc y).cell? ⟨R, k * 3 + 1, none⟩ = some (.int .i64 q.p.epoch) := fun x y => celB (HB x y) e1
  have E2 : ∀ x y, ((w.alloc x).alloc y).cell? ⟨R, k * 3 + 2, none⟩ = some (.int .i64 q.p.known) := fun x y => celB (HB x y) e2
  clear d0 e0 e1 e2 hf h
  go_enter Tryd.func70, Tryd.ntmps70
  go_wp2
  go_region
  go_wp2
  refine bodyPost_ret (v := riV s.epoch ql.p.log ql.a ql.c q.p q.a q.c) (by simp [results, Tryd.results70, go_sem]) rfl ⟨rfl, (HB _ _).drew⟩

theorem upToNow_any (now : Int) (lg : List Rw) (rb a : Option Addr) (kb c n : Nat) (w : World) :
    Calls Tryd.prog 78 #[foV now lg rb kb, .slice a n c] w fun e w' => e = .returned (.agg #[.slice a n c, .int .i64 now, .int .i64 (n : Int)]) ∧ Below w.heap.size w w' := by
  have HB : ∀ x y, Below w.heap.size w ((w.alloc x).alloc y) := fun _ _ => ((Below.refl _ _).alloc (Nat.le_refl _) _).alloc (by simp) _
  go_enter Tryd.func78, Tryd.ntmps78
  go_wp2
  refine bodyPost_ret (v := .agg #[.slice a n c, .int .i64 now, .int .i64 (n : Int)]) (by simp [results, Tryd.results78, go_sem]) rfl ⟨rfl, HB _ _⟩

theorem Gow.setO' {w : World} {B : Nat} {s : Gr} {a0 : Option Addr} {R : Nat} {qs : List Rq} {b : Nat} (h : Gow w B s a0 R qs) (hb : ∀ c, (InI a0 s.steps.length c ∨ c = R ∨ ∃ (i : Nat) (q : Rq), qs[i]? = some q ∧ InI q.a q.p.log.length c) → c ≠ b) (o : Nat) (v : Value) : Gow (w.setCell ⟨b, o, none⟩ v) B s a0 R qs := by
  have e : ∀ c, c ≠ b → (w.setCell ⟨b, o, none⟩ v).heap[c]? = w.heap[c]? := fun c hc => Below.heap_setCell _ ⟨b, o, none⟩ _ c hc
  exact ⟨h.eqs, h.steps.of_block fun c hi => e c (hb c (.inl hi)), h.stepsR.of_block fun c hi => e c (hb c (.inl hi)), h.stepsA, h.og.of_block (by simp) fun c _ hi => e c (hb c (.inr hi))⟩
/-- Nothing of it is a box that is made later. -/
theorem Gow.ne {w : World} {B : Nat} {s : Gr} {a0 : Option Addr} {R : Nat} {qs : List Rq} (h : Gow w B s a0 R qs) {b : Nat} (hb : w.heap.size ≤ b) : ∀ c, (InI a0 s.steps.length c ∨ c = R ∨ ∃ (i : Nat) (q : Rq), qs[i]? = some q ∧ InI q.a q.p.log.length c) → c ≠ b := fun c hc => by
  rcases hc with hi | rfl | ⟨i, q, hq, hi⟩
  · have := h.stepsR.lt hi; omega
  · have := h.og.size; omega
  · have := h.og.lt i q c hq hi; omega
theorem Gow.ne_set {w : World} {B : Nat} {s : Gr} {a0 : Option Addr} {R : Nat} {qs : List Rq} (h : Gow w B s a0 R qs) {b : Nat} (hb : w.heap.size ≤ b) (j : Nat) (q : Rq) (hq : ∀ c, InI q.a q.p.log.length c → c ≠ b) : ∀ c, (InI a0 s.steps.length c ∨ c = R ∨ ∃ (i : Nat) (p : Rq), (qs.set j q)[i]? = some p ∧ InI p.a p.p.log.length c) → c ≠ b := fun c hc => by
  rcases hc with hi | rfl | ⟨i, p, hp, hi⟩
  · have := h.stepsR.lt hi; omega
  · have := h.og.size; omega
  · by_cases e : i = j
    · subst e
      rw [List.getElem?_set_self (by have := (List.getElem?_eq_some_iff.1 hp).1; rw [List.length_set] at this; exact this), Option.some.injEq] at hp
      subst hp
      exact hq c hi
    · rw [List.getElem?_set_ne (fun g => e g.symm)] at hp
      have := h.og.lt i p c hp hi; omega

set_option maxRecDepth 100000 in
set_option maxHeartbeats 4000000 in
theorem withLeaderUpToNow_any (s : Gr) (f B R : Nat) (ql : Rq) (qs : List Rq) (a0 : Option Addr) (c0 c1 : Nat) (w : World) (h : Gow w B s a0 R qs) (hf0 : s.leader = f) (hql : qs[f]? = some ql) (hn : s.reps.length ≤ 1000000) (hlog : ∀ (i : Nat) (p : Rp), s.reps[i]? = some p → p.log.length ≤ 1000) :
    Calls Tryd.prog 57 #[grV s a0 c0 (some ⟨R, 0, none⟩) c1] w fun r w' => ∃ qs', r = .returned (grV (upN s f ql.p.log) a0 c0 (some ⟨R, 0, none⟩) c1) ∧ Gow w' B (upN s f ql.p.log) a0 R qs' ∧ Below B w w' ∧ ∀ b, b < w.heap.size → b ≠ R → w'.heap[b]? = w.heap[b]? := by
  have hBz : B ≤ w.heap.size := by have := h.og.hB; have := h.og.size; omega
  have hRz := h.og.size
  have hfn : f < s.reps.length := by rw [← h.len]; exact (List.getElem?_eq_some_iff.1 hql).1
  have hq30 := hlog f ql.p (by rw [← h.eqs, List.getElem?_map, hql]; rfl)
  have HF : Hid (s.leader = f) := hf0
  have hfi : (f : Int) < (s.reps.length : Int) := by omega
  clear hf0
  obtain ⟨x0, hx0⟩ : ∃ u, ((w.alloc (.cells #[.int .i64 s.epoch, .int .i64 s.leader, .slice a0 s.steps.length c0, .int .i64 s.high, .slice (some ⟨R, 0, none⟩) s.reps.length c1] 25)).alloc (.cells #[.int .i64 0, .int .i64 0, .slice none 0 0, .int .i64 0, .slice none 0 0] 25)) = u := ⟨_, rfl⟩
  have b0 : Below w.heap.size w x0 := by rw [← hx0]; exact ((Below.refl _ _).alloc (Nat.le_refl _) _).alloc (by simp) _
  have hz0 : x0.heap.size = w.heap.size + 2 := by rw [← hx0]; simp
  have g0 : x0.cell? ⟨w.heap.size, 0, none⟩ = some (.int .i64 s.epoch) := by rw [← hx0]; simp [go_sem]
  have g1 : x0.cell? ⟨w.heap.size, 1, none⟩ = some (.int .i64 s.leader) := by rw [← hx0]; simp [go_sem]
  have g2 : x0.cell? ⟨w.heap.size, 2, none⟩ = some (.slice a0 s.steps.length c0) := by rw [← hx0]; simp [go_sem]
  have g3 : x0.cell? ⟨w.heap.size, 3, none⟩ = some (.int .i64 s.high) := by rw [← hx0]; simp [go_sem]
  have g4 : x0.cell? ⟨w.heap.size, 4, none⟩ = some (.slice (some ⟨R, 0, none⟩) s.reps.length c1) := by rw [← hx0]; simp [go_sem]
  have z0 : x0.cell? ⟨w.heap.size + 1, 0, none⟩ = some (.int .i64 0) := by rw [← hx0]; simp [go_sem]
  have z1 : x0.cell? ⟨w.heap.size + 1, 1, none⟩ = some (.int .i64 0) := by rw [← hx0]; simp [go_sem]
  have z2 : x0.cell? ⟨w.heap.size + 1, 2, none⟩ = some (.slice none 0 0) := by rw [← hx0]; simp [go_sem]
  have z3 : x0.cell? ⟨w.heap.size + 1, 3, none⟩ = some (.int .i64 0) := by rw [← hx0]; simp [go_sem]
  have z4 : x0.cell? ⟨w.heap.size + 1, 4, none⟩ = some (.slice none 0 0) := by rw [← hx0]; simp [go_sem]
  have gf : ∀ o, x0.frozen? ⟨w.heap.size, o, none⟩ = false := fun o => by rw [← hx0]; simp [go_sem]
  have zf : ∀ o, x0.frozen? ⟨w.heap.size + 1, o, none⟩ = false := fun o => by rw [← hx0]; simp [go_sem]
  go_enter Tryd.func57, Tryd.ntmps57
  go_wp2_with fail
  try rw [hx0]
  clear hx0
  refine (replicaOf_o s _ f f B R ql ql qs _ _ _ _ (h.below b0) HF.out hql hql HF.out hn).mono ?_
  rintro r w1 ⟨rfl, hB1⟩
  obtain ⟨u2, hu2⟩ : ∃ u, (w1.alloc (.cells #[.int .i64 s.epoch, .slice ql.a ql.p.log.length ql.c, .slice ql.a ql.p.log.length ql.c, .int .i64 ql.p.epoch, .int .i64 ql.p.known] 103)) = u := ⟨_, rfl⟩
  have BU : Below x0.heap.size x0 u2.drew := by rw [← hu2]; exact (stGr hB1 (alGr _ _)).drew
  have hz1 := hB1.size
  have kk : u2.drew.cell? ⟨w.heap.size, 1, none⟩ = some (.int .i64 (f : Int)) ∧ u2.drew.cell? ⟨w.heap.size, 4, none⟩ = some (.slice (some ⟨R, 0, none⟩) s.reps.length c1) ∧ u2.drew.cell? ⟨w1.heap.size, 0, none⟩ = some (.int .i64 s.epoch) ∧ u2.drew.cell? ⟨w1.heap.size, 1, none⟩ = some (.slice ql.a ql.p.log.length ql.c) ∧ u2.drew.cell? ⟨w1.heap.size, 2, none⟩ = some (.slice ql.a ql.p.log.length ql.c) ∧ u2.drew.cell? ⟨w1.heap.size, 3, none⟩ = some (.int .i64 ql.p.epoch) ∧ u2.drew.cell? ⟨w1.heap.size, 4, none⟩ = some (.int .i64 ql.p.known) := ⟨by rw [← HF.out]; exact celB BU g1, celB BU g4, by rw [← hu2]; simp [go_sem], by rw [← hu2]; simp [go_sem], by rw [← hu2]; simp [go_sem], by rw [← hu2]; simp [go_sem], by rw [← hu2]; simp [go_sem]⟩
  go_wp2_with fail
  try rw [hu2]
  refine wp_region_noPanic ?_
  refine wp_region_held_drew (S := fun w' => w'.cell? ⟨w.heap.size, 1, none⟩ = some (.int .i64 (f : Int)) ∧ w'.cell? ⟨w.heap.size, 4, none⟩ = some (.slice (some ⟨R, 0, none⟩) s.reps.length c1) ∧ w'.cell? ⟨w1.heap.size, 0, none⟩ = some (.int .i64 s.epoch) ∧ w'.cell? ⟨w1.heap.size, 1, none⟩ = some (.slice ql.a ql.p.log.length ql.c) ∧ w'.cell? ⟨w1.heap.size, 2, none⟩ = some (.slice ql.a ql.p.log.length ql.c) ∧ w'.cell? ⟨w1.heap.size, 3, none⟩ = some (.int .i64 ql.p.epoch) ∧ w'.cell? ⟨w1.heap.size, 4, none⟩ = some (.int .i64 ql.p.known)) (by kernel_rfl) kk (fun hH => ?_)
  refine wpAnyH_take (i := 0) (oi := ⟨_, _, _, _, _, _⟩) (v := ?vw0) rfl (by kernel_rfl) (by kernel_rfl) (by kernel_rfl) (fun _ _ _ h => h) (Or.inl ⟨by rfl, ?yw0⟩) (by assumption) ?rw0
  case yw0 => intro w hSw; (try dsimp only at hSw); go_simp; try with_reducible rfl
  try simp only [Act.put, List.setIfInBounds_toArray, List.set_cons_zero, List.set_cons_succ]
  refine wpAnyH_take (i := 1) (oi := ⟨_, _, _, _, _, _⟩) (v := ?vw1) rfl (by kernel_rfl) (by kernel_rfl) (by kernel_rfl) (fun _ _ _ h => h) (Or.inl ⟨by rfl, ?yw1⟩) (by assumption) ?rw1
  case yw1 => intro w hSw; (try dsimp only at hSw); go_simp; try with_reducible rfl
  try simp only [Act.put, List.setIfInBounds_toArray, List.set_cons_zero, List.set_cons_succ]
  refine wpAnyH_take (i := 2) (oi := ⟨_, _, _, _, _, _⟩) (v := ?vw2) rfl (by kernel_rfl) (by kernel_rfl) (by kernel_rfl) (fun _ _ _ h => h) (Or.inl ⟨by rfl, ?yw2⟩) (by assumption) ?rw2
  case yw2 => intro w hSw; (try dsimp only at hSw); go_simp; try with_reducible rfl
  try simp only [Act.put, List.setIfInBounds_toArray, List.set_cons_zero, List.set_cons_succ]
  refine wpAnyH_take (i := 3) (oi := ⟨_, _, _, _, _, _⟩) (v := ?vw3) rfl (by kernel_rfl) (by kernel_rfl) (by kernel_rfl) (fun _ _ _ h => h) (Or.inl ⟨by rfl, ?yw3⟩) (by assumption) ?rw3
  case yw3 => intro w hSw; (try dsimp only at hSw); go_simp; try with_reducible rfl
  try simp only [Act.put, List.setIfInBounds_toArray, List.set_cons_zero, List.set_cons_succ]
  refine wpAnyH_take (i := 4) (oi := ⟨_, _, _, _, _, _⟩) (v := ?vw4) rfl (by kernel_rfl) (by kernel_rfl) (by kernel_rfl) (fun _ _ _ h => h) (Or.inl ⟨by rfl, ?yw4⟩) (by assumption) ?rw4
  case yw4 => intro w hSw; (try dsimp only at hSw); go_simp; try with_reducible rfl
  try simp only [Act.put, List.setIfInBounds_toArray, List.set_cons_zero, List.set_cons_succ]
  refine wpAnyH_take (i := 5) (oi := ⟨_, _, _, _, _, _⟩) (v := ?vw5) rfl (by kernel_rfl) (by kernel_rfl) (by kernel_rfl) (fun _ _ _ h => h) (Or.inl ⟨by rfl, ?yw5⟩) (by assumption) ?rw5
  case yw5 => intro w hSw; (try dsimp only at hSw); go_simp; try with_reducible rfl
  try simp only [Act.put, List.setIfInBounds_toArray, List.set_cons_zero, List.set_cons_succ]
  refine wpAnyH_take (i := 6) (oi := ⟨_, _, _, _, _, _⟩) (v := ?vw6) rfl (by kernel_rfl) (by kernel_rfl) (by kernel_rfl) (fun _ _ _ h => h) (Or.inl ⟨by rfl, ?yw6⟩) (by assumption) ?rw6
  case yw6 => intro w hSw; (try dsimp only at hSw); go_simp; try with_reducible rfl
  try simp only [Act.put, List.setIfInBounds_toArray, List.set_cons_zero, List.set_cons_succ]
  refine wpAnyH_take (i := 7) (oi := ⟨_, _, _, _, _, _⟩) (v := ?vw7) rfl (by kernel_rfl) (by kernel_rfl) (by kernel_rfl) (fun _ _ _ h => h) (Or.inl ⟨by rfl, ?yw7⟩) (by assumption) ?rw7
  case yw7 => intro w hSw; (try dsimp only at hSw); go_simp; try with_reducible rfl
  try simp only [Act.put, List.setIfInBounds_toArray, List.set_cons_zero, List.set_cons_succ]
  refine wpAnyH_take (i := 8) (oi := ⟨_, _, _, _, _, _⟩) (v := ?vw8) rfl (by kernel_rfl) (by kernel_rfl) (by kernel_rfl) (fun _ _ _ h => h) (Or.inl ⟨by rfl, ?yw8⟩) (by assumption) ?rw8
  case yw8 => intro w hSw; (try dsimp only at hSw); go_simp; try with_reducible rfl
  try simp only [Act.put, List.setIfInBounds_toArray, List.set_cons_zero, List.set_cons_succ]
  refine wpAnyH_ready (rs := [9]) (by kernel_rfl) (by simp) ?_
  refine AllReadyH.cons (o := ⟨_, _, _, _, _, _⟩) rfl (fun KK hK => ?_) AllReadyH.nil
  go_simp
  refine (upToNow_any s.epoch ql.p.log _ _ _ _ _ _).mono ?_
  rintro r w5 ⟨rfl, hB5⟩
  have kk5 : w5.cell? ⟨w.heap.size, 1, none⟩ = some (.int .i64 (f : Int)) ∧ w5.cell? ⟨w.heap.size, 4, none⟩ = some (.slice (some ⟨R, 0, none⟩) s.reps.length c1) ∧ w5.cell? ⟨w1.heap.size, 0, none⟩ = some (.int .i64 s.epoch) ∧ w5.cell? ⟨w1.heap.size, 1, none⟩ = some (.slice ql.a ql.p.log.length ql.c) ∧ w5.cell? ⟨w1.heap.size, 2, none⟩ = some (.slice ql.a ql.p.log.length ql.c) ∧ w5.cell? ⟨w1.heap.size, 3, none⟩ = some (.int .i64 ql.p.epoch) ∧ w5.cell? ⟨w1.heap.size, 4, none⟩ = some (.int .i64 ql.p.known) := ⟨celB hB5 kk.1, celB hB5 kk.2.1, celB hB5 kk.2.2.1, celB hB5 kk.2.2.2.1, celB hB5 kk.2.2.2.2.1, celB hB5 kk.2.2.2.2.2.1, celB hB5 kk.2.2.2.2.2.2⟩
  have B5 : Below x0.heap.size x0 w5 := stGr BU hB5
  have G5 := (h.below b0).below B5
  have cR := G5.row.1 f ql hql
  obtain ⟨cR0, cR1, cR2⟩ := cR
  have fR := G5.row.2
  have hz5 := B5.size
  clear hB5
  go_wp2_with fail
  refine hK.out _ _ kk5 (fun hH9 => ?_)
  clear hK KK hH
  try simp only [Act.put, List.setIfInBounds_toArray, List.set_cons_zero, List.set_cons_succ]
  refine wpAnyH_take (i := 10) (oi := ⟨_, _, _, _, _, _⟩) (v := ?vw10) rfl (by kernel_rfl) (by kernel_rfl) (by kernel_rfl) (fun _ _ _ h => h) (Or.inl ⟨by rfl, ?yw10⟩) (by assumption) ?rw10
  case yw10 => intro w hSw; (try dsimp only at hSw); go_simp; try with_reducible rfl
  try simp only [Act.put, List.setIfInBounds_toArray, List.set_cons_zero, List.set_cons_succ]
  refine wpAnyH_ready (rs := [11]) (by kernel_rfl) (by simp) ?_
  refine AllReadyH.cons (o := ⟨_, _, _, _, _, _⟩) rfl (fun KK hK => ?_) AllReadyH.nil
  skip
  have kkS : (((w5.setCell ⟨R, f * 3, none⟩ (.slice ql.a ql.p.log.length ql.c)).setCell ⟨R, f * 3 + 1, none⟩ (.int .i64 s.epoch)).setCell ⟨R, f * 3 + 2, none⟩ (.int .i64 (ql.p.log.length : Int))).cell? ⟨w.heap.size, 1, none⟩ = some (.int .i64 (f : Int)) ∧ (((w5.setCell ⟨R, f * 3, none⟩ (.slice ql.a ql.p.log.length ql.c)).setCell ⟨R, f * 3 + 1, none⟩ (.int .i64 s.epoch)).setCell ⟨R, f * 3 + 2, none⟩ (.int .i64 (ql.p.log.length : Int))).cell? ⟨w.heap.size, 4, none⟩ = some (.slice (some ⟨R, 0, none⟩) s.reps.length c1) ∧ (((w5.setCell ⟨R, f * 3, none⟩ (.slice ql.a ql.p.log.length ql.c)).setCell ⟨R, f * 3 + 1, none⟩ (.int .i64 s.epoch)).setCell ⟨R, f * 3 + 2, none⟩ (.int .i64 (ql.p.log.length : Int))).cell? ⟨w1.heap.size, 0, none⟩ = some (.int .i64 s.epoch) ∧ (((w5.setCell ⟨R, f * 3, none⟩ (.slice ql.a ql.p.log.length ql.c)).setCell ⟨R, f * 3 + 1, none⟩ (.int .i64 s.epoch)).setCell ⟨R, f * 3 + 2, none⟩ (.int .i64 (ql.p.log.length : Int))).cell? ⟨w1.heap.size, 1, none⟩ = some (.slice ql.a ql.p.log.length ql.c) ∧ (((w5.setCell ⟨R, f * 3, none⟩ (.slice ql.a ql.p.log.length ql.c)).setCell ⟨R, f * 3 + 1, none⟩ (.int .i64 s.epoch)).setCell ⟨R, f * 3 + 2, none⟩ (.int .i64 (ql.p.log.length : Int))).cell? ⟨w1.heap.size, 2, none⟩ = some (.slice ql.a ql.p.log.length ql.c) ∧ (((w5.setCell ⟨R, f * 3, none⟩ (.slice ql.a ql.p.log.length ql.c)).setCell ⟨R, f * 3 + 1, none⟩ (.int .i64 s.epoch)).setCell ⟨R, f * 3 + 2, none⟩ (.int .i64 (ql.p.log.length : Int))).cell? ⟨w1.heap.size, 3, none⟩ = some (.int .i64 ql.p.epoch) ∧ (((w5.setCell ⟨R, f * 3, none⟩ (.slice ql.a ql.p.log.length ql.c)).setCell ⟨R, f * 3 + 1, none⟩ (.int .i64 s.epoch)).setCell ⟨R, f * 3 + 2, none⟩ (.int .i64 (ql.p.log.length : Int))).cell? ⟨w1.heap.size, 4, none⟩ = some (.int .i64 ql.p.known) := ⟨by rw [World.cell?_setCell_other _ _ _ _ (by first | (simp; done) | (simp; omega)), World.cell?_setCell_other _ _ _ _ (by first | (simp; done) | (simp; omega)), World.cell?_setCell_other _ _ _ _ (by first | (simp; done) | (simp; omega))]; exact kk5.1, by rw [World.cell?_setCell_other _ _ _ _ (by first | (simp; done) | (simp; omega)), World.cell?_setCell_other _ _ _ _ (by first | (simp; done) | (simp; omega)), World.cell?_setCell_other _ _ _ _ (by first | (simp; done) | (simp; omega))]; exact kk5.2.1, by rw [World.cell?_setCell_other _ _ _ _ (by first | (simp; done) | (simp; omega)), World.cell?_setCell_other _ _ _ _ (by first | (simp; done) | (simp; omega)), World.cell?_setCell_other _ _ _ _ (by first | (simp; done) | (simp; omega))]; exact kk5.2.2.1, by rw [World.cell?_setCell_other _ _ _ _ (by first | (simp; done) | (simp; omega)), World.cell?_setCell_other _ _ _ _ (by first | (simp; done) | (simp; omega)), World.cell?_setCell_other _ _ _ _ (by first | (simp; done) | (simp; omega))]; exact kk5.2.2.2.1, by rw [World.cell?_setCell_other _ _ _ _ (by first | (simp; done) | (simp; omega)), World.cell?_setCell_other _ _ _ _ (by first | (simp; done) | (simp; omega)), World.cell?_setCell_other _ _ _ _ (by first | (simp; done) | (simp; omega))]; exact kk5.2.2.2.2.1, by rw [World.cell?_setCell_other _ _ _ _ (by first | (simp; done) | (simp; omega)), World.cell?_setCell_other _ _ _ _ (by first | (simp; done) | (simp; omega)), World.cell?_setCell_other _ _ _ _ (by first | (simp; done) | (simp; omega))]; exact kk5.2.2.2.2.2.1, by rw [World.cell?_setCell_other _ _ _ _ (by first | (simp; done) | (simp; omega)), World.cell?_setCell_other _ _ _ _ (by first | (simp; done) | (simp; omega)), World.cell?_setCell_other _ _ _ _ (by first | (simp; done) | (simp; omega))]; exact kk5.2.2.2.2.2.2⟩
  go_simp
  refine hK.out _ _ kkS (fun hH11 => ?_)
  clear hK KK hH9
  try simp only [Act.put, List.setIfInBounds_toArray, List.set_cons_zero, List.set_cons_succ]
  refine wpAnyH_done (by kernel_rfl) (NoPanic.normal ?_) _
  have BB : Below B w (((w5.setCell ⟨R, f * 3, none⟩ (.slice ql.a ql.p.log.length ql.c)).setCell ⟨R, f * 3 + 1, none⟩ (.int .i64 s.epoch)).setCell ⟨R, f * 3 + 2, none⟩ (.int .i64 (ql.p.log.length : Int))) := Gow.set3b ((b0.trans (B5.mono (by omega))).mono hBz) h.og.hB
  obtain ⟨x5, hx5⟩ : ∃ u, (((w5.setCell ⟨R, f * 3, none⟩ (.slice ql.a ql.p.log.length ql.c)).setCell ⟨R, f * 3 + 1, none⟩ (.int .i64 s.epoch)).setCell ⟨R, f * 3 + 2, none⟩ (.int .i64 (ql.p.log.length : Int))) = u := ⟨_, rfl⟩
  have GG : Gow x5 B (upN s f ql.p.log) a0 R (qs.set f ⟨⟨ql.p.log, s.epoch, (ql.p.log.length : Int)⟩, ql.a, ql.c⟩) := by rw [← hx5]; unfold upN; exact G5.keep hql _ _
  have OO : ∀ b, b < w.heap.size → b ≠ R → x5.heap[b]? = w.heap[b]? := fun b hb hne => by rw [← hx5, Below.heap_setCell _ ⟨R, _, none⟩ _ b (fun e => hne e), Below.heap_setCell _ ⟨R, _, none⟩ _ b (fun e => hne e), Below.heap_setCell _ ⟨R, _, none⟩ _ b (fun e => hne e), B5.block b (by omega), b0.block b hb]
  rw [hx5] at BB
  try rw [hx5]
  have hBw : B ≤ w.heap.size + 1 := by omega
  have hwR := h.ne_set (b := w.heap.size + 1) (by omega) f ⟨⟨ql.p.log, s.epoch, (ql.p.log.length : Int)⟩, ql.a, ql.c⟩ (fun c hi => by have := h.og.lt f ql c hql hi; omega)
  have y0 : x5.cell? ⟨w.heap.size, 0, none⟩ = some (.int .i64 s.epoch) := by rw [← hx5, World.cell?_setCell_other _ _ _ _ (by first | (simp; done) | (simp; omega)), World.cell?_setCell_other _ _ _ _ (by first | (simp; done) | (simp; omega)), World.cell?_setCell_other _ _ _ _ (by first | (simp; done) | (simp; omega))]; exact celB B5 g0
  have y1 : x5.cell? ⟨w.heap.size, 1, none⟩ = some (.int .i64 s.leader) := by rw [← hx5, World.cell?_setCell_other _ _ _ _ (by first | (simp; done) | (simp; omega)), World.cell?_setCell_other _ _ _ _ (by first | (simp; done) | (simp; omega)), World.cell?_setCell_other _ _ _ _ (by first | (simp; done) | (simp; omega))]; exact celB B5 g1
  have y2 : x5.cell? ⟨w.heap.size, 2, none⟩ = some (.slice a0 s.steps.length c0) := by rw [← hx5, World.cell?_setCell_other _ _ _ _ (by first | (simp; done) | (simp; omega)), World.cell?_setCell_other _ _ _ _ (by first | (simp; done) | (simp; omega)), World.cell?_setCell_other _ _ _ _ (by first | (simp; done) | (simp; omega))]; exact celB B5 g2
  have y3 : x5.cell? ⟨w.heap.size, 3, none⟩ = some (.int .i64 s.high) := by rw [← hx5, World.cell?_setCell_other _ _ _ _ (by first | (simp; done) | (simp; omega)), World.cell?_setCell_other _ _ _ _ (by first | (simp; done) | (simp; omega)), World.cell?_setCell_other _ _ _ _ (by first | (simp; done) | (simp; omega))]; exact celB B5 g3
  have y4 : x5.cell? ⟨w.heap.size, 4, none⟩ = some (.slice (some ⟨R, 0, none⟩) s.reps.length c1) := by rw [← hx5, World.cell?_setCell_other _ _ _ _ (by first | (simp; done) | (simp; omega)), World.cell?_setCell_other _ _ _ _ (by first | (simp; done) | (simp; omega)), World.cell?_setCell_other _ _ _ _ (by first | (simp; done) | (simp; omega))]; exact celB B5 g4
  have v0 : x5.cell? ⟨w.heap.size + 1, 0, none⟩ = some (.int .i64 0) := by rw [← hx5, World.cell?_setCell_other _ _ _ _ (by first | (simp; done) | (simp; omega)), World.cell?_setCell_other _ _ _ _ (by first | (simp; done) | (simp; omega)), World.cell?_setCell_other _ _ _ _ (by first | (simp; done) | (simp; omega))]; exact celB B5 z0
  have v1 : x5.cell? ⟨w.heap.size + 1, 1, none⟩ = some (.int .i64 0) := by rw [← hx5, World.cell?_setCell_other _ _ _ _ (by first | (simp; done) | (simp; omega)), World.cell?_setCell_other _ _ _ _ (by first | (simp; done) | (simp; omega)), World.cell?_setCell_other _ _ _ _ (by first | (simp; done) | (simp; omega))]; exact celB B5 z1
  have v2 : x5.cell? ⟨w.heap.size + 1, 2, none⟩ = some (.slice none 0 0) := by rw [← hx5, World.cell?_setCell_other _ _ _ _ (by first | (simp; done) | (simp; omega)), World.cell?_setCell_other _ _ _ _ (by first | (simp; done) | (simp; omega)), World.cell?_setCell_other _ _ _ _ (by first | (simp; done) | (simp; omega))]; exact celB B5 z2
  have v3 : x5.cell? ⟨w.heap.size + 1, 3, none⟩ = some (.int .i64 0) := by rw [← hx5, World.cell?_setCell_other _ _ _ _ (by first | (simp; done) | (simp; omega)), World.cell?_setCell_other _ _ _ _ (by first | (simp; done) | (simp; omega)), World.cell?_setCell_other _ _ _ _ (by first | (simp; done) | (simp; omega))]; exact celB B5 z3
  have v4 : x5.cell? ⟨w.heap.size + 1, 4, none⟩ = some (.slice none 0 0) := by rw [← hx5, World.cell?_setCell_other _ _ _ _ (by first | (simp; done) | (simp; omega)), World.cell?_setCell_other _ _ _ _ (by first | (simp; done) | (simp; omega)), World.cell?_setCell_other _ _ _ _ (by first | (simp; done) | (simp; omega))]; exact celB B5 z4
  have vf : ∀ o, x5.frozen? ⟨w.heap.size + 1, o, none⟩ = false := fun o => by rw [← hx5]; simp [go_sem, frzB (o := o) B5 (by omega) (zf o)]
  clear hx5 kk kk5 kkS cR0 cR1 cR2 fR G5 hu2 g0 g1 g2 g3 g4 z0 z1 z2 z3 z4 gf zf
  go_wp2
  refine bodyPost_ret (v := grV s a0 c0 (some ⟨R, 0, none⟩) c1) (by simp [results, Tryd.results57, go_sem, v0, v1, v2, v3, v4]) rfl ⟨qs.set f ⟨⟨ql.p.log, s.epoch, (ql.p.log.length : Int)⟩, ql.a, ql.c⟩, ?_, ?_, ?_⟩
  · rw [show grV (upN s f ql.p.log) a0 c0 (some ⟨R, 0, none⟩) c1 = grV s a0 c0 (some ⟨R, 0, none⟩) c1 by simp [upN, putR]]
  · exact (((((GG.setO' hwR _ _).setO' hwR _ _).setO' hwR _ _).setO' hwR _ _).setO' hwR _ _)
  · exact ⟨((((BB.setCell hBw _).setCell hBw _).setCell hBw _).setCell hBw _).setCell hBw _, fun b hb hne => by rw [Below.heap_setCell _ ⟨w.heap.size + 1, _, none⟩ _ b (by simp; omega), Below.heap_setCell _ ⟨w.heap.size + 1, _, none⟩ _ b (by simp; omega), Below.heap_setCell _ ⟨w.heap.size + 1, _, none⟩ _ b (by simp; omega), Below.heap_setCell _ ⟨w.heap.size + 1, _, none⟩ _ b (by simp; omega), Below.heap_setCell _ ⟨w.heap.size + 1, _, none⟩ _ b (by simp; omega)]; exact OO b hb hne⟩

set_option maxRecDepth 100000 in
set_option maxHeartbeats 4000000 in
theorem fetched_any (now : Int) (lg xs : List Rw) (most : Int) (rb a : Option Addr) (kb c n m : Nat) (w : World) (hb : Rws w rb lg) (hx : Rws w a xs) (hl : lg.length ≤ maxLen) (hl3 : lg.length ≤ 1000) (hkb : lg.length ≤ kb) (h0 : 0 ≤ most) (h30 : most ≤ 30) (hn : sameN lg xs = n) (hm : (m : Int) = min (lg.length : Int) ((n : Int) + most)) :
    Calls Tryd.prog 79 #[foV now lg rb kb, .slice a xs.length c, .int .i64 most] w fun r w' => ∃ a' k', r = .returned (.slice a' m k') ∧ Rws w' a' (lg.take m) ∧ RowRw w' w.heap.size a' m ∧ m ≤ k' ∧ Below w.heap.size w w' := by
  have hnl := (sameN_le lg xs).1
  rw [hn] at hnl
  have hml : m ≤ lg.length := by omega
  have hif : (if (n : Int) + most < (lg.length : Int) then (n : Int) + most else (lg.length : Int)) = (m : Int) := by split <;> omega
  have hwr : IntKind.i64.wrap ((n : Int) + most) = (n : Int) + most := by rw [IntKind.wrap_i64]; omega
  have hmc : (m : Int) ≤ (kb : Int) := by omega
  have hm0 : (0 : Int) ≤ (m : Int) := by omega
  clear hm
  obtain ⟨u2, hu2⟩ : ∃ u, (w.alloc (.cells #[.int .i64 now, .slice rb lg.length kb] 101)) = u := ⟨_, rfl⟩
  have BU : Below w.heap.size w u2.drew := by rw [← hu2]; exact (alGr _ _).drew
  have kk : u2.drew.cell? ⟨w.heap.size, 0, none⟩ = some (.int .i64 now) ∧ u2.drew.cell? ⟨w.heap.size, 1, none⟩ = some (.slice rb lg.length kb) := by rw [← hu2]; simp [go_sem]
  go_enter Tryd.func79, Tryd.ntmps79
  go_wp2_with fail
  try rw [hu2]
  refine wp_region_noPanic ?_
  refine wp_region_held_drew (S := fun w' => w'.cell? ⟨w.heap.size, 0, none⟩ = some (.int .i64 now) ∧ w'.cell? ⟨w.heap.size, 1, none⟩ = some (.slice rb lg.length kb)) (by kernel_rfl) kk (fun hH => ?_)
  refine wpAnyH_take (i := 0) (oi := ⟨_, _, _, _, _, _⟩) (v := ?vf0) rfl (by kernel_rfl) (by kernel_rfl) (by kernel_rfl) (fun _ _ _ h => h) (Or.inl ⟨by rfl, ?yf0⟩) (by assumption) ?rf0
  case yf0 => intro w hSw; (try dsimp only at hSw); go_simp; try with_reducible rfl
  try simp only [Act.put, List.setIfInBounds_toArray, List.set_cons_zero, List.set_cons_succ]
  refine wpAnyH_take (i := 1) (oi := ⟨_, _, _, _, _, _⟩) (v := ?vf1) rfl (by kernel_rfl) (by kernel_rfl) (by kernel_rfl) (fun _ _ _ h => h) (Or.inl ⟨by rfl, ?yf1⟩) (by assumption) ?rf1
  case yf1 => intro w hSw; (try dsimp only at hSw); go_simp; try with_reducible rfl
  try simp only [Act.put, List.setIfInBounds_toArray, List.set_cons_zero, List.set_cons_succ]
  refine wpAnyH_take (i := 2) (oi := ⟨_, _, _, _, _, _⟩) (v := ?vf2) rfl (by kernel_rfl) (by kernel_rfl) (by kernel_rfl) (fun _ _ _ h => h) (Or.inl ⟨by rfl, ?yf2⟩) (by assumption) ?rf2
  case yf2 => intro w hSw; (try dsimp only at hSw); go_simp; try with_reducible rfl
  try simp only [Act.put, List.setIfInBounds_toArray, List.set_cons_zero, List.set_cons_succ]
  refine wpAnyH_take (i := 3) (oi := ⟨_, _, _, _, _, _⟩) (v := ?vf3) rfl (by kernel_rfl) (by kernel_rfl) (by kernel_rfl) (fun _ _ _ h => h) (Or.inl ⟨by rfl, ?yf3⟩) (by assumption) ?rf3
  case yf3 => intro w hSw; (try dsimp only at hSw); go_simp; try with_reducible rfl
  try simp only [Act.put, List.setIfInBounds_toArray, List.set_cons_zero, List.set_cons_succ]
  refine wpAnyH_take (i := 4) (oi := ⟨_, _, _, _, _, _⟩) (v := ?vf4) rfl (by kernel_rfl) (by kernel_rfl) (by kernel_rfl) (fun _ _ _ h => h) (Or.inl ⟨by rfl, ?yf4⟩) (by assumption) ?rf4
  case yf4 => intro w hSw; (try dsimp only at hSw); go_simp; try with_reducible rfl
  try simp only [Act.put, List.setIfInBounds_toArray, List.set_cons_zero, List.set_cons_succ]
  refine wpAnyH_take (i := 5) (oi := ⟨_, _, _, _, _, _⟩) (v := ?vf5) rfl (by kernel_rfl) (by kernel_rfl) (by kernel_rfl) (fun _ _ _ h => h) (Or.inl ⟨by rfl, ?yf5⟩) (by assumption) ?rf5
  case yf5 => intro w hSw; (try dsimp only at hSw); go_simp; try with_reducible rfl
  try simp only [Act.put, List.setIfInBounds_toArray, List.set_cons_zero, List.set_cons_succ]
  refine wpAnyH_take (i := 6) (oi := ⟨_, _, _, _, _, _⟩) (v := ?vf6) rfl (by kernel_rfl) (by kernel_rfl) (by kernel_rfl) (fun _ _ _ h => h) (Or.inl ⟨by rfl, ?yf6⟩) (by assumption) ?rf6
  case yf6 => intro w hSw; (try dsimp only at hSw); go_simp; try with_reducible rfl
  try simp only [Act.put, List.setIfInBounds_toArray, List.set_cons_zero, List.set_cons_succ]
  refine wpAnyH_take (i := 8) (oi := ⟨_, _, _, _, _, _⟩) (v := ?vf8) rfl (by kernel_rfl) (by kernel_rfl) (by kernel_rfl) (fun _ _ _ h => h) (Or.inl ⟨by rfl, ?yf8⟩) (by assumption) ?rf8
  case yf8 => intro w hSw; (try dsimp only at hSw); go_simp; try with_reducible rfl
  try simp only [Act.put, List.setIfInBounds_toArray, List.set_cons_zero, List.set_cons_succ]
  refine wpAnyH_ready (rs := [7]) (by kernel_rfl) (by simp) ?_
  refine AllReadyH.cons (o := ⟨_, _, _, _, _, _⟩) rfl (fun KK hK => ?_) AllReadyH.nil
  go_simp
  refine (shared_any now lg xs _ _ _ _ n _ (hb.below BU) (hx.below BU) hl hn).mono ?_
  rintro r w3 ⟨rfl, hB3⟩
  have kk3 : w3.cell? ⟨w.heap.size, 0, none⟩ = some (.int .i64 now) ∧ w3.cell? ⟨w.heap.size, 1, none⟩ = some (.slice rb lg.length kb) := ⟨celB hB3 kk.1, celB hB3 kk.2⟩
  have BV := stGr BU hB3
  clear hB3
  go_wp2_with fail
  refine hK.out _ _ kk3 (fun hH7 => ?_)
  clear hK KK hH
  try simp only [Act.put, List.setIfInBounds_toArray, List.set_cons_zero, List.set_cons_succ]
  refine wpAnyH_take (i := 9) (oi := ⟨_, _, _, _, _, _⟩) (v := ?vf9) rfl (by kernel_rfl) (by kernel_rfl) (by kernel_rfl) (fun _ _ _ h => h) (Or.inl ⟨by rfl, ?yf9⟩) (by assumption) ?rf9
  case yf9 => intro w hSw; (try dsimp only at hSw); go_simp; try with_reducible rfl
  try simp only [Act.put, List.setIfInBounds_toArray, List.set_cons_zero, List.set_cons_succ]
  refine wpAnyH_take (i := 10) (oi := ⟨_, _, _, _, _, _⟩) (v := ?vf10) rfl (by kernel_rfl) (by kernel_rfl) (by kernel_rfl) (fun _ _ _ h => h) (Or.inl ⟨by rfl, ?yf10⟩) (by assumption) ?rf10
  case yf10 => intro w hSw; (try dsimp only at hSw); go_simp; try with_reducible rfl
  try simp only [Act.put, List.setIfInBounds_toArray, List.set_cons_zero, List.set_cons_succ]
  refine wpAnyH_take (i := 11) (oi := ⟨_, _, _, _, _, _⟩) (v := ?vf11) rfl (by kernel_rfl) (by kernel_rfl) (by kernel_rfl) (fun _ _ _ h => h) (Or.inl ⟨by rfl, ?yf11⟩) (by assumption) ?rf11
  case yf11 => intro w hSw; (try dsimp only at hSw); go_simp; try with_reducible rfl
  try simp only [Act.put, List.setIfInBounds_toArray, List.set_cons_zero, List.set_cons_succ]
  refine wpAnyH_ready (rs := [12]) (by kernel_rfl) (by simp) ?_
  refine AllReadyH.cons (o := ⟨_, _, _, _, _, _⟩) rfl (fun KK hK => ?_) AllReadyH.nil
  go_simp
  refine (ownListR_any _ m _ lg _ (hb.below BV) hml (by omega)).mono ?_
  rintro r w4 ⟨a', k', rfl, HO0, HR0, hc4, hB4⟩
  have kk4 : w4.cell? ⟨w.heap.size, 0, none⟩ = some (.int .i64 now) ∧ w4.cell? ⟨w.heap.size, 1, none⟩ = some (.slice rb lg.length kb) := ⟨celB hB4 kk3.1, celB hB4 kk3.2⟩
  have BX := stGr BV hB4
  have HO : Hid (Rws w4 a' (lg.take m)) := HO0
  have HR : Hid (RowRw w4 w.heap.size a' m) := HR0.mono BV.size
  clear hB4 HO0 HR0
  go_wp2_with fail
  refine hK.out _ _ kk4 (fun hH12 => ?_)
  clear hK KK hH7
  try simp only [Act.put, List.setIfInBounds_toArray, List.set_cons_zero, List.set_cons_succ]
  refine wpAnyH_take (i := 13) (oi := ⟨_, _, _, _, _, _⟩) (v := ?vf13) rfl (by kernel_rfl) (by kernel_rfl) (by kernel_rfl) (fun _ _ _ h => h) (Or.inl ⟨by rfl, ?yf13⟩) (by assumption) ?rf13
  case yf13 => intro w hSw; (try dsimp only at hSw); go_simp; try with_reducible rfl
  try simp only [Act.put, List.setIfInBounds_toArray, List.set_cons_zero, List.set_cons_succ]
  refine wpAnyH_done (by kernel_rfl) (NoPanic.normal ?_) _
  clear hu2
  go_wp2
  refine bodyPost_ret (v := .slice a' m k') (by simp [results, Tryd.results79, go_sem]) rfl ⟨a', k', rfl, HO.out, HR.out, hc4, BX⟩

end Go.Proofs.YtkhbgdnhkaeamaaDoor

namespace Go.Proofs.YtkhbgdnhkaeamaaDoor
open Go.RowKit

/-- The two logs that a fetch reads. -/
def Fet (w : World) (ql q : Rq) : Prop := Rws w ql.a ql.p.log ∧ Rws w q.a q.p.log ∧ True
theorem Fet.below {w w' : World} {ql q : Rq} (h : Fet w ql q) (hb : Below w.heap.size w w') : Fet w' ql q := ⟨h.1.below hb, h.2.1.below hb, trivial⟩

set_option maxRecDepth 100000 in
set_option maxHeartbeats 4000000 in
theorem withFetch_t (s : Gr) (f B R k n m : Nat) (most : Int) (ql q : Rq) (qs : List Rq) (a0 : Option Addr) (c0 c1 : Nat) (w : World) (h : Gow w B s a0 R qs) (hf0 : s.leader = f) (hql : qs[f]? = some ql) (hq : qs[k]? = some q) (hn : s.reps.length ≤ 1000000) (hkf : k ≠ f) (h0 : 0 ≤ most) (h30 : most ≤ 30) (hl30 : ql.p.log.length ≤ 1000) (hsn : sameN ql.p.log q.p.log = n) (hm : (m : Int) = min (ql.p.log.length : Int) ((n : Int) + most)) :
    Calls Tryd.prog 49 #[grV s a0 c0 (some ⟨R, 0, none⟩) c1, .int .i64 (k : Int), .int .i64 most] w fun r w' => ∃ a' k', r = .returned (.tuple #[grV (upN s k (ql.p.log.take m)) a0 c0 (some ⟨R, 0, none⟩) c1, .bool true]) ∧ Gow w' B (upN s k (ql.p.log.take m)) a0 R (qs.set k (⟨⟨ql.p.log.take m, s.epoch, ((ql.p.log.take m).length : Int)⟩, a', k'⟩ : Rq)) ∧ Below B w w' ∧ (∀ b, b < w.heap.size → b ≠ R → w'.heap[b]? = w.heap[b]?) ∧ ∀ c, InI a' (ql.p.log.take m).length c → w.heap.size ≤ c := by
  have hBz : B ≤ w.heap.size := by have := h.og.hB; have := h.og.size; omega
  have hRz := h.og.size
  have hkn : k < s.reps.length := by rw [← h.len]; exact (List.getElem?_eq_some_iff.1 hq).1
  have hki : (k : Int) < (s.reps.length : Int) := by omega
  have HF : Hid (s.leader = f) := hf0
  have hne : ((k : Int) == s.leader) = false := by rw [hf0]; simp; omega
  have g30 : inB most 0 30 = true := inB_t.2 ⟨h0, h30⟩
  have hml0 := (h.og.lie f ql hql).2
  have hlc := h.og.cap f ql hql (List.getElem?_eq_some_iff.1 hql).1
  have hml : m ≤ ql.p.log.length := by omega
  have HLm : Hid ((ql.p.log.take m).length = m) := by show _ = _; simp; omega
  have HMm : Hid ((m : Int) = min (ql.p.log.length : Int) ((n : Int) + most)) := hm
  have hm1000 : m ≤ 1000 := by omega
  clear hf0 hm
  obtain ⟨x0, hx0⟩ : ∃ u, ((w.alloc (.cells #[.int .i64 s.epoch, .int .i64 s.leader, .slice a0 s.steps.length c0, .int .i64 s.high, .slice (some ⟨R, 0, none⟩) s.reps.length c1] 25)).alloc (.cells #[.int .i64 0, .int .i64 0, .slice none 0 0, .int .i64 0, .slice none 0 0] 25)) = u := ⟨_, rfl⟩
  have b0 : Below w.heap.size w x0 := by rw [← hx0]; exact ((Below.refl _ _).alloc (Nat.le_refl _) _).alloc (by simp) _
  have hz0 : x0.heap.size = w.heap.size + 2 := by rw [← hx0]; simp
  have g0 : x0.cell? ⟨w.heap.size, 0, none⟩ = some (.int .i64 s.epoch) := by rw [← hx0]; simp [go_sem]
  have g1 : x0.cell? ⟨w.heap.size, 1, none⟩ = some (.int .i64 s.leader) := by rw [← hx0]; simp [go_sem]
  have g2 : x0.cell? ⟨w.heap.size, 2, none⟩ = some (.slice a0 s.steps.length c0) := by rw [← hx0]; simp [go_sem]
  have g3 : x0.cell? ⟨w.heap.size, 3, none⟩ = some (.int .i64 s.high) := by rw [← hx0]; simp [go_sem]
  have g4 : x0.cell? ⟨w.heap.size, 4, none⟩ = some (.slice (some ⟨R, 0, none⟩) s.reps.length c1) := by rw [← hx0]; simp [go_sem]
  have z0 : x0.cell? ⟨w.heap.size + 1, 0, none⟩ = some (.int .i64 0) := by rw [← hx0]; simp [go_sem]
  have z1 : x0.cell? ⟨w.heap.size + 1, 1, none⟩ = some (.int .i64 0) := by rw [← hx0]; simp [go_sem]
  have z2 : x0.cell? ⟨w.heap.size + 1, 2, none⟩ = some (.slice none 0 0) := by rw [← hx0]; simp [go_sem]
  have z3 : x0.cell? ⟨w.heap.size + 1, 3, none⟩ = some (.int .i64 0) := by rw [← hx0]; simp [go_sem]
  have z4 : x0.cell? ⟨w.heap.size + 1, 4, none⟩ = some (.slice none 0 0) := by rw [← hx0]; simp [go_sem]
  have gf : ∀ o, x0.frozen? ⟨w.heap.size, o, none⟩ = false := fun o => by rw [← hx0]; simp [go_sem]
  have zf : ∀ o, x0.frozen? ⟨w.heap.size + 1, o, none⟩ = false := fun o => by rw [← hx0]; simp [go_sem]
  have HG0 : Hid (Fet x0 ql q) := ⟨((h.below b0).og.lie f ql hql).1, ((h.below b0).og.lie k q hq).1, trivial⟩
  go_enter Tryd.func49, Tryd.ntmps49
  go_wp2_with (first | (go_at_call 46; refine (within_c _ _ _ _ g30).mono ?_; rintro e w' ⟨rfl, hw⟩; rw [hw]; clear hw w') | fail)
  try rw [hx0]
  clear hx0
  refine (replicaOf_o s _ f k B R ql q qs _ _ _ _ (h.below b0) HF.out hql hq rfl hn).mono ?_
  rintro r w1 ⟨rfl, hB1⟩
  obtain ⟨u2, hu2⟩ : ∃ u, (w1.alloc (.cells #[.int .i64 s.epoch, .slice ql.a ql.p.log.length ql.c, .slice q.a q.p.log.length q.c, .int .i64 q.p.epoch, .int .i64 q.p.known] 103)) = u := ⟨_, rfl⟩
  have BU : Below x0.heap.size x0 u2.drew := by rw [← hu2]; exact (stGr hB1 (alGr _ _)).drew
  have hz1 := hB1.size
  have kk : u2.drew.cell? ⟨w.heap.size, 4, none⟩ = some (.slice (some ⟨R, 0, none⟩) s.reps.length c1) ∧ u2.drew.cell? ⟨w1.heap.size, 0, none⟩ = some (.int .i64 s.epoch) ∧ u2.drew.cell? ⟨w1.heap.size, 1, none⟩ = some (.slice ql.a ql.p.log.length ql.c) ∧ u2.drew.cell? ⟨w1.heap.size, 2, none⟩ = some (.slice q.a q.p.log.length q.c) ∧ u2.drew.cell? ⟨w1.heap.size, 3, none⟩ = some (.int .i64 q.p.epoch) ∧ u2.drew.cell? ⟨w1.heap.size, 4, none⟩ = some (.int .i64 q.p.known) := ⟨celB BU g4, by rw [← hu2]; simp [go_sem], by rw [← hu2]; simp [go_sem], by rw [← hu2]; simp [go_sem], by rw [← hu2]; simp [go_sem], by rw [← hu2]; simp [go_sem]⟩
  go_wp2_with fail
  try rw [hu2]
  refine wp_region_noPanic ?_
  refine wp_region_held_drew (S := fun w' => w'.cell? ⟨w.heap.size, 4, none⟩ = some (.slice (some ⟨R, 0, none⟩) s.reps.length c1) ∧ w'.cell? ⟨w1.heap.size, 0, none⟩ = some (.int .i64 s.epoch) ∧ w'.cell? ⟨w1.heap.size, 1, none⟩ = some (.slice ql.a ql.p.log.length ql.c) ∧ w'.cell? ⟨w1.heap.size, 2, none⟩ = some (.slice q.a q.p.log.length q.c) ∧ w'.cell? ⟨w1.heap.size, 3, none⟩ = some (.int .i64 q.p.epoch) ∧ w'.cell? ⟨w1.heap.size, 4, none⟩ = some (.int .i64 q.p.known)) (by kernel_rfl) kk (fun hH => ?_)
  refine wpAnyH_take (i := 0) (oi := ⟨_, _, _, _, _, _⟩) (v := ?vq0) rfl (by kernel_rfl) (by kernel_rfl) (by kernel_rfl) (fun _ _ _ h => h) (Or.inl ⟨by rfl, ?yq0⟩) (by assumption) ?rq0
  case yq0 => intro w hSw; (try dsimp only at hSw); go_simp; try with_reducible rfl
  try simp only [Act.put, List.setIfInBounds_toArray, List.set_cons_zero, List.set_cons_succ]
  refine wpAnyH_take (i := 1) (oi := ⟨_, _, _, _, _, _⟩) (v := ?vq1) rfl (by kernel_rfl) (by kernel_rfl) (by kernel_rfl) (fun _ _ _ h => h) (Or.inl ⟨by rfl, ?yq1⟩) (by assumption) ?rq1
  case yq1 => intro w hSw; (try dsimp only at hSw); go_simp; try with_reducible rfl
  try simp only [Act.put, List.setIfInBounds_toArray, List.set_cons_zero, List.set_cons_succ]
  refine wpAnyH_take (i := 2) (oi := ⟨_, _, _, _, _, _⟩) (v := ?vq2) rfl (by kernel_rfl) (by kernel_rfl) (by kernel_rfl) (fun _ _ _ h => h) (Or.inl ⟨by rfl, ?yq2⟩) (by assumption) ?rq2
  case yq2 => intro w hSw; (try dsimp only at hSw); go_simp; try with_reducible rfl
  try simp only [Act.put, List.setIfInBounds_toArray, List.set_cons_zero, List.set_cons_succ]
  refine wpAnyH_take (i := 3) (oi := ⟨_, _, _, _, _, _⟩) (v := ?vq3) rfl (by kernel_rfl) (by kernel_rfl) (by kernel_rfl) (fun _ _ _ h => h) (Or.inl ⟨by rfl, ?yq3⟩) (by assumption) ?rq3
  case yq3 => intro w hSw; (try dsimp only at hSw); go_simp; try with_reducible rfl
  try simp only [Act.put, List.setIfInBounds_toArray, List.set_cons_zero, List.set_cons_succ]
  refine wpAnyH_take (i := 4) (oi := ⟨_, _, _, _, _, _⟩) (v := ?vq4) rfl (by kernel_rfl) (by kernel_rfl) (by kernel_rfl) (fun _ _ _ h => h) (Or.inl ⟨by rfl, ?yq4⟩) (by assumption) ?rq4
  case yq4 => intro w hSw; (try dsimp only at hSw); go_simp; try with_reducible rfl
  try simp only [Act.put, List.setIfInBounds_toArray, List.set_cons_zero, List.set_cons_succ]
  refine wpAnyH_take (i := 5) (oi := ⟨_, _, _, _, _, _⟩) (v := ?vq5) rfl (by kernel_rfl) (by kernel_rfl) (by kernel_rfl) (fun _ _ _ h => h) (Or.inl ⟨by rfl, ?yq5⟩) (by assumption) ?rq5
  case yq5 => intro w hSw; (try dsimp only at hSw); go_simp; try with_reducible rfl
  try simp only [Act.put, List.setIfInBounds_toArray, List.set_cons_zero, List.set_cons_succ]
  refine wpAnyH_take (i := 6) (oi := ⟨_, _, _, _, _, _⟩) (v := ?vq6) rfl (by kernel_rfl) (by kernel_rfl) (by kernel_rfl) (fun _ _ _ h => h) (Or.inl ⟨by rfl, ?yq6⟩) (by assumption) ?rq6
  case yq6 => intro w hSw; (try dsimp only at hSw); go_simp; try with_reducible rfl
  try simp only [Act.put, List.setIfInBounds_toArray, List.set_cons_zero, List.set_cons_succ]
  refine wpAnyH_take (i := 7) (oi := ⟨_, _, _, _, _, _⟩) (v := ?vq7) rfl (by kernel_rfl) (by kernel_rfl) (by kernel_rfl) (fun _ _ _ h => h) (Or.inl ⟨by rfl, ?yq7⟩) (by assumption) ?rq7
  case yq7 => intro w hSw; (try dsimp only at hSw); go_simp; try with_reducible rfl
  try simp only [Act.put, List.setIfInBounds_toArray, List.set_cons_zero, List.set_cons_succ]
  refine wpAnyH_take (i := 8) (oi := ⟨_, _, _, _, _, _⟩) (v := ?vq8) rfl (by kernel_rfl) (by kernel_rfl) (by kernel_rfl) (fun _ _ _ h => h) (Or.inl ⟨by rfl, ?yq8⟩) (by assumption) ?rq8
  case yq8 => intro w hSw; (try dsimp only at hSw); go_simp; try with_reducible rfl
  try simp only [Act.put, List.setIfInBounds_toArray, List.set_cons_zero, List.set_cons_succ]
  refine wpAnyH_take (i := 9) (oi := ⟨_, _, _, _, _, _⟩) (v := ?vq9) rfl (by kernel_rfl) (by kernel_rfl) (by kernel_rfl) (fun _ _ _ h => h) (Or.inl ⟨by rfl, ?yq9⟩) (by assumption) ?rq9
  case yq9 => intro w hSw; (try dsimp only at hSw); go_simp; try with_reducible rfl
  try simp only [Act.put, List.setIfInBounds_toArray, List.set_cons_zero, List.set_cons_succ]
  refine wpAnyH_take (i := 10) (oi := ⟨_, _, _, _, _, _⟩) (v := ?vq10) rfl (by kernel_rfl) (by kernel_rfl) (by kernel_rfl) (fun _ _ _ h => h) (Or.inl ⟨by rfl, ?yq10⟩) (by assumption) ?rq10
  case yq10 => intro w hSw; (try dsimp only at hSw); go_simp; try with_reducible rfl
  try simp only [Act.put, List.setIfInBounds_toArray, List.set_cons_zero, List.set_cons_succ]
  refine wpAnyH_ready (rs := [11]) (by kernel_rfl) (by simp) ?_
  refine AllReadyH.cons (o := ⟨_, _, _, _, _, _⟩) rfl (fun KK hK => ?_) AllReadyH.nil
  go_simp
  refine (fetched_any s.epoch ql.p.log q.p.log most _ _ _ _ n m _ (HG0.out.below BU).1 (HG0.out.below BU).2.1 hml0 hl30 hlc h0 h30 hsn HMm.out).mono ?_
  rintro r w4 ⟨a', k', rfl, hO4, hR4, hc4, hB4⟩
  have kk4 : w4.cell? ⟨w.heap.size, 4, none⟩ = some (.slice (some ⟨R, 0, none⟩) s.reps.length c1) ∧ w4.cell? ⟨w1.heap.size, 0, none⟩ = some (.int .i64 s.epoch) ∧ w4.cell? ⟨w1.heap.size, 1, none⟩ = some (.slice ql.a ql.p.log.length ql.c) ∧ w4.cell? ⟨w1.heap.size, 2, none⟩ = some (.slice q.a q.p.log.length q.c) ∧ w4.cell? ⟨w1.heap.size, 3, none⟩ = some (.int .i64 q.p.epoch) ∧ w4.cell? ⟨w1.heap.size, 4, none⟩ = some (.int .i64 q.p.known) := ⟨celB hB4 kk.1, celB hB4 kk.2.1, celB hB4 kk.2.2.1, celB hB4 kk.2.2.2.1, celB hB4 kk.2.2.2.2.1, celB hB4 kk.2.2.2.2.2⟩
  have B4 : Below x0.heap.size x0 w4 := stGr BU hB4
  have hzU := BU.size
  clear hB4
  go_wp2_with fail
  refine hK.out _ _ kk4 (fun hH11 => ?_)
  clear hK KK hH
  try simp only [Act.put, List.setIfInBounds_toArray, List.set_cons_zero, List.set_cons_succ]
  refine wpAnyH_ready (rs := [12]) (by kernel_rfl) (by simp) ?_
  refine AllReadyH.cons (o := ⟨_, _, _, _, _, _⟩) rfl (fun KK hK => ?_) AllReadyH.nil
  go_simp
  refine (upToNow_any s.epoch ql.p.log _ _ _ _ _ _).mono ?_
  rintro r w5 ⟨rfl, hB5⟩
  have kk5 : w5.cell? ⟨w.heap.size, 4, none⟩ = some (.slice (some ⟨R, 0, none⟩) s.reps.length c1) ∧ w5.cell? ⟨w1.heap.size, 0, none⟩ = some (.int .i64 s.epoch) ∧ w5.cell? ⟨w1.heap.size, 1, none⟩ = some (.slice ql.a ql.p.log.length ql.c) ∧ w5.cell? ⟨w1.heap.size, 2, none⟩ = some (.slice q.a q.p.log.length q.c) ∧ w5.cell? ⟨w1.heap.size, 3, none⟩ = some (.int .i64 q.p.epoch) ∧ w5.cell? ⟨w1.heap.size, 4, none⟩ = some (.int .i64 q.p.known) := ⟨celB hB5 kk4.1, celB hB5 kk4.2.1, celB hB5 kk4.2.2.1, celB hB5 kk4.2.2.2.1, celB hB5 kk4.2.2.2.2.1, celB hB5 kk4.2.2.2.2.2⟩
  have B5 : Below x0.heap.size x0 w5 := stGr B4 hB5
  have G5 := (h.below b0).below B5
  have HO : Hid (Rws w5 a' (ql.p.log.take m)) := hO4.below hB5
  have HR : Hid (RowRw w5 x0.heap.size a' m) := (hR4.mono hzU).below hB5
  obtain ⟨cR0, cR1, cR2⟩ := G5.row.1 k q hq
  have fR := G5.row.2
  have hz5 := B5.size
  clear hB5 hO4 hR4
  go_wp2_with fail
  refine hK.out _ _ kk5 (fun hH12 => ?_)
  clear hK KK hH11
  try simp only [Act.put, List.setIfInBounds_toArray, List.set_cons_zero, List.set_cons_succ]
  refine wpAnyH_take (i := 13) (oi := ⟨_, _, _, _, _, _⟩) (v := ?vq13) rfl (by kernel_rfl) (by kernel_rfl) (by kernel_rfl) (fun _ _ _ h => h) (Or.inl ⟨by rfl, ?yq13⟩) (by assumption) ?rq13
  case yq13 => intro w hSw; (try dsimp only at hSw); go_simp; try with_reducible rfl
  try simp only [Act.put, List.setIfInBounds_toArray, List.set_cons_zero, List.set_cons_succ]
  refine wpAnyH_ready (rs := [14]) (by kernel_rfl) (by simp) ?_
  refine AllReadyH.cons (o := ⟨_, _, _, _, _, _⟩) rfl (fun KK hK => ?_) AllReadyH.nil
  skip
  have kkS : (((w5.setCell ⟨R, k * 3, none⟩ (.slice a' m k')).setCell ⟨R, k * 3 + 1, none⟩ (.int .i64 s.epoch)).setCell ⟨R, k * 3 + 2, none⟩ (.int .i64 (m : Int))).cell? ⟨w.heap.size, 4, none⟩ = some (.slice (some ⟨R, 0, none⟩) s.reps.length c1) ∧ (((w5.setCell ⟨R, k * 3, none⟩ (.slice a' m k')).setCell ⟨R, k * 3 + 1, none⟩ (.int .i64 s.epoch)).setCell ⟨R, k * 3 + 2, none⟩ (.int .i64 (m : Int))).cell? ⟨w1.heap.size, 0, none⟩ = some (.int .i64 s.epoch) ∧ (((w5.setCell ⟨R, k * 3, none⟩ (.slice a' m k')).setCell ⟨R, k * 3 + 1, none⟩ (.int .i64 s.epoch)).setCell ⟨R, k * 3 + 2, none⟩ (.int .i64 (m : Int))).cell? ⟨w1.heap.size, 1, none⟩ = some (.slice ql.a ql.p.log.length ql.c) ∧ (((w5.setCell ⟨R, k * 3, none⟩ (.slice a' m k')).setCell ⟨R, k * 3 + 1, none⟩ (.int .i64 s.epoch)).setCell ⟨R, k * 3 + 2, none⟩ (.int .i64 (m : Int))).cell? ⟨w1.heap.size, 2, none⟩ = some (.slice q.a q.p.log.length q.c) ∧ (((w5.setCell ⟨R, k * 3, none⟩ (.slice a' m k')).setCell ⟨R, k * 3 + 1, none⟩ (.int .i64 s.epoch)).setCell ⟨R, k * 3 + 2, none⟩ (.int .i64 (m : Int))).cell? ⟨w1.heap.size, 3, none⟩ = some (.int .i64 q.p.epoch) ∧ (((w5.setCell ⟨R, k * 3, none⟩ (.slice a' m k')).setCell ⟨R, k * 3 + 1, none⟩ (.int .i64 s.epoch)).setCell ⟨R, k * 3 + 2, none⟩ (.int .i64 (m : Int))).cell? ⟨w1.heap.size, 4, none⟩ = some (.int .i64 q.p.known) := ⟨by rw [World.cell?_setCell_other _ _ _ _ (by first | (simp; done) | (simp; omega)), World.cell?_setCell_other _ _ _ _ (by first | (simp; done) | (simp; omega)), World.cell?_setCell_other _ _ _ _ (by first | (simp; done) | (simp; omega))]; exact kk5.1, by rw [World.cell?_setCell_other _ _ _ _ (by first | (simp; done) | (simp; omega)), World.cell?_setCell_other _ _ _ _ (by first | (simp; done) | (simp; omega)), World.cell?_setCell_other _ _ _ _ (by first | (simp; done) | (simp; omega))]; exact kk5.2.1, by rw [World.cell?_setCell_other _ _ _ _ (by first | (simp; done) | (simp; omega)), World.cell?_setCell_other _ _ _ _ (by first | (simp; done) | (simp; omega)), World.cell?_setCell_other _ _ _ _ (by first | (simp; done) | (simp; omega))]; exact kk5.2.2.1, by rw [World.cell?_setCell_other _ _ _ _ (by first | (simp; done) | (simp; omega)), World.cell?_setCell_other _ _ _ _ (by first | (simp; done) | (simp; omega)), World.cell?_setCell_other _ _ _ _ (by first | (simp; done) | (simp; omega))]; exact kk5.2.2.2.1, by rw [World.cell?_setCell_other _ _ _ _ (by first | (simp; done) | (simp; omega)), World.cell?_setCell_other _ _ _ _ (by first | (simp; done) | (simp; omega)), World.cell?_setCell_other _ _ _ _ (by first | (simp; done) | (simp; omega))]; exact kk5.2.2.2.2.1, by rw [World.cell?_setCell_other _ _ _ _ (by first | (simp; done) | (simp; omega)), World.cell?_setCell_other _ _ _ _ (by first | (simp; done) | (simp; omega)), World.cell?_setCell_other _ _ _ _ (by first | (simp; done) | (simp; omega))]; exact kk5.2.2.2.2.2⟩
  go_simp
  refine hK.out _ _ kkS (fun hH14 => ?_)
  clear hK KK hH12
  try simp only [Act.put, List.setIfInBounds_toArray, List.set_cons_zero, List.set_cons_succ]
  refine wpAnyH_done (by kernel_rfl) (NoPanic.normal ?_) _
  have BB : Below B w (((w5.setCell ⟨R, k * 3, none⟩ (.slice a' m k')).setCell ⟨R, k * 3 + 1, none⟩ (.int .i64 s.epoch)).setCell ⟨R, k * 3 + 2, none⟩ (.int .i64 (m : Int))) := Gow.set3b ((b0.trans (B5.mono (by omega))).mono hBz) h.og.hB
  obtain ⟨x5, hx5⟩ : ∃ u, (((w5.setCell ⟨R, k * 3, none⟩ (.slice a' m k')).setCell ⟨R, k * 3 + 1, none⟩ (.int .i64 s.epoch)).setCell ⟨R, k * 3 + 2, none⟩ (.int .i64 (m : Int))) = u := ⟨_, rfl⟩
  have GG : Gow x5 B (upN s k (ql.p.log.take m)) a0 R (qs.set k (⟨⟨ql.p.log.take m, s.epoch, ((ql.p.log.take m).length : Int)⟩, a', k'⟩ : Rq)) := by rw [← hx5]; unfold upN; have := G5.fresh (h.below b0) (j := k) (by rw [h.len]; exact hkn) (⟨⟨ql.p.log.take m, s.epoch, ((ql.p.log.take m).length : Int)⟩, a', k'⟩ : Rq) HO.out (by show (ql.p.log.take m).length ≤ maxLen; rw [HLm.out]; unfold maxLen; omega) (by show (ql.p.log.take m).length ≤ k'; rw [HLm.out]; exact hc4) (by show RowRw _ _ _ (ql.p.log.take m).length; rw [HLm.out]; exact HR.out); simpa only [HLm.out] using this
  have OO : ∀ b, b < w.heap.size → b ≠ R → x5.heap[b]? = w.heap[b]? := fun b hb hne => by rw [← hx5, Below.heap_setCell _ ⟨R, _, none⟩ _ b (fun e => hne e), Below.heap_setCell _ ⟨R, _, none⟩ _ b (fun e => hne e), Below.heap_setCell _ ⟨R, _, none⟩ _ b (fun e => hne e), B5.block b (by omega), b0.block b hb]
  rw [hx5] at BB
  try rw [hx5]
  have hBw : B ≤ w.heap.size + 1 := by omega
  have hwR := h.ne_set (b := w.heap.size + 1) (by omega) k (⟨⟨ql.p.log.take m, s.epoch, ((ql.p.log.take m).length : Int)⟩, a', k'⟩ : Rq) (fun c hi => by have hi' : InI a' (ql.p.log.take m).length c := hi; rw [HLm.out] at hi'; have := (HR.out.lt hi').1; omega)
  have y0 : x5.cell? ⟨w.heap.size, 0, none⟩ = some (.int .i64 s.epoch) := by rw [← hx5, World.cell?_setCell_other _ _ _ _ (by first | (simp; done) | (simp; omega)), World.cell?_setCell_other _ _ _ _ (by first | (simp; done) | (simp; omega)), World.cell?_setCell_other _ _ _ _ (by first | (simp; done) | (simp; omega))]; exact celB B5 g0
  have y1 : x5.cell? ⟨w.heap.size, 1, none⟩ = some (.int .i64 s.leader) := by rw [← hx5, World.cell?_setCell_other _ _ _ _ (by first | (simp; done) | (simp; omega)), World.cell?_setCell_other _ _ _ _ (by first | (simp; done) | (simp; omega)), World.cell?_setCell_other _ _ _ _ (by first | (simp; done) | (simp; omega))]; exact celB B5 g1
  have y2 : x5.cell? ⟨w.heap.size, 2, none⟩ = some (.slice a0 s.steps.length c0) := by rw [← hx5, World.cell?_setCell_other _ _ _ _ (by first | (simp; done) | (simp; omega)), World.cell?_setCell_other _ _ _ _ (by first | (simp; done) | (simp; omega)), World.cell?_setCell_other _ _ _ _ (by first | (simp; done) | (simp; omega))]; exact celB B5 g2
  have y3 : x5.cell? ⟨w.heap.size, 3, none⟩ = some (.int .i64 s.high) := by rw [← hx5, World.cell?_setCell_other _ _ _ _ (by first | (simp; done) | (simp; omega)), World.cell?_setCell_other _ _ _ _ (by first | (simp; done) | (simp; omega)), World.cell?_setCell_other _ _ _ _ (by first | (simp; done) | (simp; omega))]; exact celB B5 g3
  have y4 : x5.cell? ⟨w.heap.size, 4, none⟩ = some (.slice (some ⟨R, 0, none⟩) s.reps.length c1) := by rw [← hx5, World.cell?_setCell_other _ _ _ _ (by first | (simp; done) | (simp; omega)), World.cell?_setCell_other _ _ _ _ (by first | (simp; done) | (simp; omega)), World.cell?_setCell_other _ _ _ _ (by first | (simp; done) | (simp; omega))]; exact celB B5 g4
  have v0 : x5.cell? ⟨w.heap.size + 1, 0, none⟩ = some (.int .i64 0) := by rw [← hx5, World.cell?_setCell_other _ _ _ _ (by first | (simp; done) | (simp; omega)), World.cell?_setCell_other _ _ _ _ (by first | (simp; done) | (simp; omega)), World.cell?_setCell_other _ _ _ _ (by first | (simp; done) | (simp; omega))]; exact celB B5 z0
  have v1 : x5.cell? ⟨w.heap.size + 1, 1, none⟩ = some (.int .i64 0) := by rw [← hx5, World.cell?_setCell_other _ _ _ _ (by first | (simp; done) | (simp; omega)), World.cell?_setCell_other _ _ _ _ (by first | (simp; done) | (simp; omega)), World.cell?_setCell_other _ _ _ _ (by first | (simp; done) | (simp; omega))]; exact celB B5 z1
  have v2 : x5.cell? ⟨w.heap.size + 1, 2, none⟩ = some (.slice none 0 0) := by rw [← hx5, World.cell?_setCell_other _ _ _ _ (by first | (simp; done) | (simp; omega)), World.cell?_setCell_other _ _ _ _ (by first | (simp; done) | (simp; omega)), World.cell?_setCell_other _ _ _ _ (by first | (simp; done) | (simp; omega))]; exact celB B5 z2
  have v3 : x5.cell? ⟨w.heap.size + 1, 3, none⟩ = some (.int .i64 0) := by rw [← hx5, World.cell?_setCell_other _ _ _ _ (by first | (simp; done) | (simp; omega)), World.cell?_setCell_other _ _ _ _ (by first | (simp; done) | (simp; omega)), World.cell?_setCell_other _ _ _ _ (by first | (simp; done) | (simp; omega))]; exact celB B5 z3
  have v4 : x5.cell? ⟨w.heap.size + 1, 4, none⟩ = some (.slice none 0 0) := by rw [← hx5, World.cell?_setCell_other _ _ _ _ (by first | (simp; done) | (simp; omega)), World.cell?_setCell_other _ _ _ _ (by first | (simp; done) | (simp; omega)), World.cell?_setCell_other _ _ _ _ (by first | (simp; done) | (simp; omega))]; exact celB B5 z4
  have vf : ∀ o, x5.frozen? ⟨w.heap.size + 1, o, none⟩ = false := fun o => by rw [← hx5]; simp [go_sem, frzB (o := o) B5 (by omega) (zf o)]
  clear hx5 kk kk4 kk5 kkS cR0 cR1 cR2 fR G5 hu2 g0 g1 g2 g3 g4 z0 z1 z2 z3 z4 gf zf
  go_wp2
  refine bodyPost_ret (v := .tuple #[grV s a0 c0 (some ⟨R, 0, none⟩) c1, .bool true]) (by simp [results, Tryd.results49, go_sem, v0, v1, v2, v3, v4]) rfl ⟨a', k', ?_, ?_, ?_⟩
  · rw [show grV (upN s k (ql.p.log.take m)) a0 c0 (some ⟨R, 0, none⟩) c1 = grV s a0 c0 (some ⟨R, 0, none⟩) c1 by simp [upN, putR]]
  · exact (((((GG.setO' hwR _ _).setO' hwR _ _).setO' hwR _ _).setO' hwR _ _).setO' hwR _ _)
  · exact ⟨((((BB.setCell hBw _).setCell hBw _).setCell hBw _).setCell hBw _).setCell hBw _, fun b hb hne => by rw [Below.heap_setCell _ ⟨w.heap.size + 1, _, none⟩ _ b (by simp; omega), Below.heap_setCell _ ⟨w.heap.size + 1, _, none⟩ _ b (by simp; omega), Below.heap_setCell _ ⟨w.heap.size + 1, _, none⟩ _ b (by simp; omega), Below.heap_setCell _ ⟨w.heap.size + 1, _, none⟩ _ b (by simp; omega), Below.heap_setCell _ ⟨w.heap.size + 1, _, none⟩ _ b (by simp; omega)]; exact OO b hb hne, fun c hi => by rw [HLm.out] at hi; have := (HR.out.lt hi).1; omega⟩

set_option maxRecDepth 100000 in
set_option maxHeartbeats 4000000 in
theorem withFetch_f (s : Gr) (k : Int) (most : Int) (a0 a1 : Option Addr) (c0 c1 : Nat) (w : World) (h : (k == s.leader) = true ∨ inB most 0 30 = false) :
    Calls Tryd.prog 49 #[grV s a0 c0 a1 c1, .int .i64 k, .int .i64 most] w fun r w' => r = .returned (.tuple #[.agg #[.int .i64 0, .int .i64 0, .slice none 0 0, .int .i64 0, .slice none 0 0], .bool false]) ∧ Below w.heap.size w w' := by
  cases hk : (k == s.leader) with
  | true =>
    clear h
    obtain ⟨x0, hx0⟩ : ∃ u, ((w.alloc (.cells #[.int .i64 s.epoch, .int .i64 s.leader, .slice a0 s.steps.length c0, .int .i64 s.high, .slice a1 s.reps.length c1] 25)).alloc (.cells #[.int .i64 0, .int .i64 0, .slice none 0 0, .int .i64 0, .slice none 0 0] 25)) = u := ⟨_, rfl⟩
    have b0 : Below w.heap.size w x0 := by rw [← hx0]; exact ((Below.refl _ _).alloc (Nat.le_refl _) _).alloc (by simp) _
    have z0 : x0.cell? ⟨w.heap.size + 1, 0, none⟩ = some (.int .i64 0) := by rw [← hx0]; simp [go_sem]
    have z1 : x0.cell? ⟨w.heap.size + 1, 1, none⟩ = some (.int .i64 0) := by rw [← hx0]; simp [go_sem]
    have z2 : x0.cell? ⟨w.heap.size + 1, 2, none⟩ = some (.slice none 0 0) := by rw [← hx0]; simp [go_sem]
    have z3 : x0.cell? ⟨w.heap.size + 1, 3, none⟩ = some (.int .i64 0) := by rw [← hx0]; simp [go_sem]
    have z4 : x0.cell? ⟨w.heap.size + 1, 4, none⟩ = some (.slice none 0 0) := by rw [← hx0]; simp [go_sem]
    have g1 : x0.cell? ⟨w.heap.size, 1, none⟩ = some (.int .i64 s.leader) := by rw [← hx0]; simp [go_sem]
    have zf : ∀ o, x0.frozen? ⟨w.heap.size + 1, o, none⟩ = false := fun o => by rw [← hx0]; simp [go_sem]
    go_enter Tryd.func49, Tryd.ntmps49
    go_wp2_with fail
    try rw [hx0]
    clear hx0
    go_wp2
    refine bodyPost_ret (v := .tuple #[.agg #[.int .i64 0, .int .i64 0, .slice none 0 0, .int .i64 0, .slice none 0 0], .bool false]) (by simp [results, Tryd.results49, go_sem, z0, z1, z2, z3, z4]) rfl ⟨rfl, ?_⟩
    exact ((((b0.setCell (by simp) _).setCell (by simp) _).setCell (by simp) _).setCell (by simp) _).setCell (by simp) _
  | false =>
    have g30 := h.resolve_left (by rw [hk]; simp)
    clear h
    obtain ⟨x0, hx0⟩ : ∃ u, ((w.alloc (.cells #[.int .i64 s.epoch, .int .i64 s.leader, .slice a0 s.steps.length c0, .int .i64 s.high, .slice a1 s.reps.length c1] 25)).alloc (.cells #[.int .i64 0, .int .i64 0, .slice none 0 0, .int .i64 0, .slice none 0 0] 25)) = u := ⟨_, rfl⟩
    have b0 : Below w.heap.size w x0 := by rw [← hx0]; exact ((Below.refl _ _).alloc (Nat.le_refl _) _).alloc (by simp) _
    have z0 : x0.cell? ⟨w.heap.size + 1, 0, none⟩ = some (.int .i64 0) := by rw [← hx0]; simp [go_sem]
    have z1 : x0.cell? ⟨w.heap.size + 1, 1, none⟩ = some (.int .i64 0) := by rw [← hx0]; simp [go_sem]
    have z2 : x0.cell? ⟨w.heap.size + 1, 2, none⟩ = some (.slice none 0 0) := by rw [← hx0]; simp [go_sem]
    have z3 : x0.cell? ⟨w.heap.size + 1, 3, none⟩ = some (.int .i64 0) := by rw [← hx0]; simp [go_sem]
    have z4 : x0.cell? ⟨w.heap.size + 1, 4, none⟩ = some (.slice none 0 0) := by rw [← hx0]; simp [go_sem]
    have g1 : x0.cell? ⟨w.heap.size, 1, none⟩ = some (.int .i64 s.leader) := by rw [← hx0]; simp [go_sem]
    have zf : ∀ o, x0.frozen? ⟨w.heap.size + 1, o, none⟩ = false := fun o => by rw [← hx0]; simp [go_sem]
    go_enter Tryd.func49, Tryd.ntmps49
    go_wp2_with (go_at_call 46; refine (within_c _ _ _ _ g30).mono ?_; rintro e w' ⟨rfl, hw⟩; rw [hw]; clear hw w')
    try rw [hx0]
    clear hx0
    go_wp2
    refine bodyPost_ret (v := .tuple #[.agg #[.int .i64 0, .int .i64 0, .slice none 0 0, .int .i64 0, .slice none 0 0], .bool false]) (by simp [results, Tryd.results49, go_sem, z0, z1, z2, z3, z4]) rfl ⟨rfl, ?_⟩
    exact ((((b0.setCell (by simp) _).setCell (by simp) _).setCell (by simp) _).setCell (by simp) _).setCell (by simp) _

end Go.Proofs.YtkhbgdnhkaeamaaDoor
